package machine

import (
	"math/rand"
	"testing"

	"payoff/api"
	"payoff/sample"
	"payoff/verify"
)

// Inside the package, as nobody else sees the stack.

// holdHeights does today's code as Day does, and holds the stack's height ahead of each instruction against what verify tells.
func holdHeights(t *testing.T, m *Machine, row []api.Cell) {
	t.Helper()
	today, does := m.now.Today, deeds()
	r := m.begin(row)
	heights := []int{}
	for n, s := range m.program.Days {
		if s.Day == today {
			heights, _ = verify.Heights(m.program, n)
		}
	}
	if len(r.code) != len(heights) {
		t.Fatalf("day %d has %d instructions, want %d", today, len(r.code), len(heights))
	}
	fault := api.NoFault
	for fault == api.NoFault && r.next < len(r.code) {
		if len(r.stack) != heights[r.next] {
			t.Fatalf("%d values ahead of instruction %d, want %d: %v", len(r.stack), r.next, heights[r.next], r.code)
		}
		i := r.code[r.next]
		r.next++
		fault = does[i.Op](r, i)
	}
	if fault == api.NoFault && len(r.stack) > 0 {
		t.Fatalf("%d values are left: %v", len(r.stack), r.code)
	}
}

// P1506: on no day are there more values on the stack than the proof tells, of machines that were made anew or resumed.
func TestStackInBounds(t *testing.T) {
	t.Parallel()
	chance := rand.New(rand.NewSource(157))
	for range 3000 {
		p := sample.Sound(chance.Intn)
		m, e := New(p)
		if e != api.OK {
			t.Fatalf("New: %d", e)
		}
		for _, row := range sample.Rows(chance.Intn, p.Horizon+1, len(p.Names)) {
			if m.Over() {
				break
			}
			other, e := Resume(p, m.State())
			if e != api.OK {
				t.Fatalf("Resume: %d", e)
			}
			holdHeights(t, other, row)
			r := other.begin(row)
			r.goThrough()
			if cap(r.stack) > m.proof.Stack {
				t.Fatalf("room for %d values, the proof says %d: %v", cap(r.stack), m.proof.Stack, r.code)
			}
			if _, _, e := m.Day(row); e != api.OK {
				t.Fatalf("Day: %d", e)
			}
		}
	}
}

// P1503: nothing but the proof's days back is kept, also in the room ahead of a list.
func TestNoOldRowIsHeld(t *testing.T) {
	p := api.Program{Names: []string{"A"}, Horizon: 20, Stack: 1, Days: []api.Segment{{Day: 20, Code: []api.Instr{{Op: api.OpObs, B: 3}, {Op: api.OpDrop}, {Op: api.OpEnd}}}}}
	m, _ := New(p)
	for range p.Horizon {
		all := m.now.Past
		m.Day([]api.Cell{{Has: true, V: 1}})
		if len(all) == 3 && cap(all) > 3 && all[0] != nil {
			t.Fatalf("day %d: a row is held", m.now.Today)
		}
	}
}

// P1508: each instruction has what it does.
func TestEveryInstructionHasADeed(t *testing.T) {
	for op, does := range deeds() {
		if does == nil {
			t.Errorf("instruction %d does nothing", op)
		}
	}
}
