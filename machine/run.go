package machine

import "payoff/api"

// run: a day's code that is being done. Nothing of it outlives the day but the flows that are told, the row, and what it has left in the machine.
type run struct {
	of    *Machine
	code  []api.Instr
	next  int // the place of the instruction that comes next
	ended bool
	row   []api.Cell
	stack []int
	slots []int
	flows []api.Flow
}

// begin makes ready for today's code. No instruction puts more than one value on the stack: short code needs less room than the proof tells.
func (m *Machine) begin(row []api.Cell) *run {
	code := m.codeOf(m.now.Today)
	return &run{of: m, code: code, row: m.fit(row), stack: make([]int, 0, min(m.proof.Stack, len(code)))}
}

// goThrough does the day's code, if there is any, and tells the fault at which it stopped.
func (r *run) goThrough() api.Fault {
	if len(r.code) == 0 {
		return api.NoFault
	}
	does, fault := deeds(), api.NoFault
instructions:
	for {
		i := r.code[r.next]
		r.next++
		r.of.now.Steps++
		switch fault = does[i.Op](r, i); {
		case fault != api.NoFault, r.ended:
			break instructions
		}
	}
	return fault
}

// put lays a value on the stack; nothing can go wrong there.
func (r *run) put(v int) api.Fault {
	r.stack = append(r.stack, v)
	return api.NoFault
}

// top tells the value that was put last. The proof says that there is one.
func (r *run) top() int { return r.stack[len(r.stack)-1] }

func (r *run) take() int {
	v := r.top()
	r.stack = r.stack[:len(r.stack)-1]
	return v
}

// pair takes two values, and tells the one first that was put first.
func (r *run) pair() (int, int) {
	b := r.take()
	return r.take(), b
}

// result puts what was worked out, unless it went wrong.
func (r *run) result(v int, fault api.Fault) api.Fault {
	if fault != api.NoFault {
		return fault
	}
	return r.put(v)
}

// answer puts a truth.
func (r *run) answer(holds bool) api.Fault {
	if holds {
		return r.put(1)
	}
	return r.put(0)
}

// seen tells the row of a day so many days back.
func (r *run) seen(back int) []api.Cell {
	if back == 0 {
		return r.row
	}
	past := r.of.now.Past
	return past[len(past)-back]
}
