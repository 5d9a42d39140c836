package machine_test

import (
	"maps"
	"math/big"
	"slices"
	"testing"

	"payoff/api"
	"payoff/asm"
	"payoff/machine"
	"payoff/verify"
)

// A plain reading of the chapter: true numbers, and every day's row.

// plain: a machine that keeps all of its rows, by their days.
type plain struct {
	p    api.Program
	back int
	rows map[int][]api.Cell
	now  api.State // without Past
}

// plainNew: a machine ahead of day 0, of a program that is right.
func plainNew(p api.Program) *plain {
	proof, _, _, _ := verify.Verify(p)
	return &plain{p: p, back: proof.Back, rows: map[int][]api.Cell{}, now: api.State{Cells: make([]int, p.Cells)}}
}

// plainResume: a machine in a state of its program.
func plainResume(p api.Program, s api.State) *plain {
	m := plainNew(p)
	for n, row := range s.Past {
		m.rows[s.Today-len(s.Past)+n] = slices.Clone(row)
	}
	m.now = s
	m.now.Cells, m.now.Past = slices.Clone(s.Cells), nil
	return m
}

// copied: a machine of its own that goes on likewise.
func (m *plain) copied() *plain {
	other := *m
	other.rows, other.now.Cells = maps.Clone(m.rows), slices.Clone(m.now.Cells)
	return &other
}

func (m *plain) over() bool { return m.now.Fault != api.NoFault || m.now.Today > m.p.Horizon }

// state: the rows of the last days, as many as are wanted and were.
func (m *plain) state() api.State {
	s := m.now
	s.Cells = slices.Clone(s.Cells)
	for day := s.Today - m.back; day < s.Today; day++ {
		if day >= 0 {
			s.Past = append(s.Past, slices.Clone(m.rows[day]))
		}
	}
	return s
}

// plainFit: a row that fits.
func plainFit(row []api.Cell, names int) []api.Cell {
	var fitted []api.Cell
	for n := range names {
		if n < len(row) && row[n].Has {
			fitted = append(fitted, row[n])
		} else {
			fitted = append(fitted, api.Cell{Has: false, V: 0})
		}
	}
	return fitted
}

func (m *plain) day(row []api.Cell) ([]api.Flow, api.Fault, api.Errno) {
	if m.over() {
		return nil, api.NoFault, api.ErrOver
	}
	t := m.now.Today
	m.rows[t] = plainFit(row, len(m.p.Names))
	var flows []api.Flow
	for _, s := range m.p.Days {
		if s.Day == t {
			flows = m.do(s.Code)
		}
	}
	m.now.Today++
	return flows, m.now.Fault, api.OK
}

// do does a day's code, by the table of the chapter.
func (m *plain) do(code []api.Instr) []api.Flow {
	var flows []api.Flow
	var stack []int
	slots := map[int]int{}
	for at := 0; code[at].Op != api.OpEnd; at++ {
		m.now.Steps++
		i := code[at]
		takes, puts := plainTakes(i.Op)
		taken := stack[len(stack)-takes:]
		stack = stack[:len(stack)-takes]
		v, fault := m.value(i, taken, slots)
		if fault != api.NoFault {
			m.now.Fault, m.now.Day = fault, m.now.Today
			return flows
		}
		switch i.Op {
		case api.OpStore:
			m.now.Cells[i.A] = taken[0]
		case api.OpKeep:
			slots[i.A] = taken[0]
		case api.OpFlow:
			flows = append(flows, api.Flow{Day: m.now.Today, Cur: m.p.Curs[i.A], Amount: taken[0]})
		case api.OpJump:
			at += i.A
		case api.OpZero:
			if taken[0] == 0 {
				at += i.A
			}
		}
		if puts {
			stack = append(slices.Clip(stack), v)
		}
	}
	m.now.Steps++
	return flows
}

// plainTakes: how many values an instruction takes, and whether it puts one.
func plainTakes(op int) (int, bool) {
	switch op {
	case api.OpConst, api.OpBool, api.OpObs, api.OpLoad, api.OpGet:
		return 0, true
	case api.OpStore, api.OpDrop, api.OpZero, api.OpFlow:
		return 1, false
	case api.OpKeep, api.OpNeg, api.OpAbs, api.OpNot:
		return 1, true
	case api.OpRatio:
		return 3, true
	case api.OpJump, api.OpEnd:
		return 0, false
	}
	return 2, true
}

// value: what an instruction puts on the stack, if it puts anything.
func (m *plain) value(i api.Instr, taken []int, slots map[int]int) (int, api.Fault) {
	switch i.Op {
	case api.OpConst:
		return m.p.Pool[i.A], api.NoFault
	case api.OpBool:
		return i.A, api.NoFault
	case api.OpObs:
		if c := m.rows[m.now.Today-i.B][i.A]; c.Has {
			return c.V, api.NoFault
		}
		return 0, api.NoObs
	case api.OpLoad:
		return m.now.Cells[i.A], api.NoFault
	case api.OpKeep:
		return taken[0], api.NoFault
	case api.OpGet:
		return slots[i.A], api.NoFault
	case api.OpStore, api.OpDrop, api.OpJump, api.OpZero, api.OpFlow:
		return 0, api.NoFault
	}
	var list []*big.Int
	for _, v := range taken {
		list = append(list, big.NewInt(int64(v)))
	}
	return plainWork(i, list)
}

// plainWork: what an instruction works out of numbers, which are as many as it wants.
func plainWork(i api.Instr, list []*big.Int) (int, api.Fault) {
	truth := func(holds bool) (int, api.Fault) { return map[bool]int{true: 1}[holds], api.NoFault }
	a, out := list[0], new(big.Int)
	switch i.Op {
	case api.OpNeg:
		return plainRange(out.Neg(a))
	case api.OpAbs:
		return plainRange(out.Abs(a))
	case api.OpNot:
		return truth(a.Sign() == 0)
	}
	b := list[1]
	switch order := a.Cmp(b); i.Op {
	case api.OpLt:
		return truth(order < 0)
	case api.OpLe:
		return truth(order <= 0)
	case api.OpGt:
		return truth(order > 0)
	case api.OpGe:
		return truth(order >= 0)
	case api.OpEq:
		return truth(order == 0)
	case api.OpNe:
		return truth(order != 0)
	case api.OpMin:
		return int([]*big.Int{b, a}[max(0, -order)].Int64()), api.NoFault
	case api.OpMax:
		return int([]*big.Int{b, a}[max(0, order)].Int64()), api.NoFault
	case api.OpAdd:
		return plainRange(out.Add(a, b))
	case api.OpSub:
		return plainRange(out.Sub(a, b))
	case api.OpMul:
		return plainRange(out.Mul(a, b))
	case api.OpRatio:
		return plainRatio(out.Mul(a, b), list[2], i.A)
	}
	if b.Sign() == 0 {
		return 0, api.DivZero
	}
	if i.Op == api.OpDiv {
		return plainRange(out.Quo(a, b))
	}
	return plainRange(out.Rem(a, b))
}

func plainRange(x *big.Int) (int, api.Fault) {
	if !x.IsInt64() {
		return 0, api.Overflow
	}
	return int(x.Int64()), api.NoFault
}

func plainRatio(x, c *big.Int, mode int) (int, api.Fault) {
	if c.Sign() == 0 {
		return 0, api.DivZero
	}
	q, rest := new(big.Int).QuoRem(x, c, new(big.Int))
	sign := x.Sign() * c.Sign()
	half := new(big.Int).Lsh(rest, 1).CmpAbs(c)
	away := false
	switch mode {
	case api.Floor:
		away = sign < 0
	case api.Ceil:
		away = sign > 0
	case api.HalfUp:
		away = half >= 0
	case api.HalfEven:
		away = half > 0 || half == 0 && q.Bit(0) == 1
	}
	if away && rest.Sign() != 0 {
		q.Add(q, big.NewInt(int64(sign)))
	}
	return plainRange(q)
}

// plainIsState: whether a state is one of a program that is right.
func plainIsState(p api.Program, s api.State) bool {
	proof, _, _, _ := verify.Verify(p)
	if s.Today < 0 || s.Today > p.Horizon+1 || s.Steps < 0 || len(s.Cells) != p.Cells || len(s.Past) != min(s.Today, proof.Back) {
		return false
	}
	steps, last := 0, false
	for _, segment := range p.Days {
		if segment.Day < s.Today {
			steps += len(segment.Code)
		}
		last = last || segment.Day == s.Today-1
	}
	if s.Steps > steps {
		return false
	}
	for _, row := range s.Past {
		if !slices.Equal(row, plainFit(row, len(p.Names))) {
			return false
		}
	}
	for _, v := range s.Cells {
		if s.Today == 0 && v != 0 {
			return false
		}
	}
	switch s.Fault {
	case api.NoFault:
		return s.Day == 0
	case api.Overflow, api.DivZero, api.NoObs:
		return last && s.Today >= 1 && s.Day == s.Today-1
	}
	return false
}

func sameState(a, b api.State) bool {
	return a.Today == b.Today && a.Steps == b.Steps && a.Fault == b.Fault && a.Day == b.Day &&
		slices.Equal(a.Cells, b.Cells) && slices.EqualFunc(a.Past, b.Past, slices.Equal)
}

// shown: a program as text, if it has one, cut short.
func shown(p api.Program) string {
	text, _ := asm.Print(p)
	return text[:min(len(text), 1500)]
}

// wantState: what Over and State tell, and that they change nothing.
func wantState(t *testing.T, m *machine.Machine, s api.State, over bool) {
	t.Helper()
	for range 2 {
		if got := m.State(); !sameState(got, s) {
			t.Fatalf("State = %+v, want %+v", got, s)
		}
		if m.Over() != over {
			t.Fatalf("Over = %v, the state being %+v", !over, s)
		}
	}
}

// holdDay holds a day of machines, and what they tell behind it, against the plain reading.
func holdDay(t *testing.T, m *plain, row []api.Cell, machines ...*machine.Machine) {
	t.Helper()
	flows, fault, e := m.day(row)
	for n, one := range machines {
		f, x, err := one.Day(row)
		if !slices.Equal(f, flows) || x != fault || err != e {
			t.Fatalf("machine %d, Day(%v) ahead of day %d = %v, %d, %d, want %v, %d, %d:\n%s", n, row, m.now.Today, f, x, err, flows, fault, e, shown(m.p))
		}
		wantState(t, one, m.state(), m.over())
	}
}
