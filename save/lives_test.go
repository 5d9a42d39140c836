package save_test

import (
	"bytes"
	"math"
	"math/rand"
	"slices"
	"testing"

	"payoff/api"
	"payoff/machine"
	"payoff/sample"
	"payoff/save"
)

// rowOf: a day's row, if there is one.
func rowOf(rows [][]api.Cell, day int) []api.Cell {
	if day < len(rows) {
		return rows[day]
	}
	return nil
}

// wantAlike: two machines tell the same, and are frozen alike.
func wantAlike(t *testing.T, p api.Program, m, n *machine.Machine) {
	t.Helper()
	if !sameState(m.State(), n.State()) || m.Over() != n.Over() {
		t.Fatalf("%+v, %v, and %+v, %v:\n%s", m.State(), m.Over(), n.State(), n.Over(), shown(p))
	}
	if !bytes.Equal(frozen(t, p, m), frozen(t, p, n)) {
		t.Fatalf("%+v was frozen in two ways:\n%s", m.State(), shown(p))
	}
}

// wantSameDay: a day of two machines is the same.
func wantSameDay(t *testing.T, p api.Program, m, n *machine.Machine, row []api.Cell) {
	t.Helper()
	today := m.State().Today
	flows, fault, e := m.Day(row)
	f, x, err := n.Day(row)
	if !slices.Equal(f, flows) || x != fault || err != e {
		t.Fatalf("Day(%v) on day %d = %v, %d, %d and %v, %d, %d:\n%s", row, today, flows, fault, e, f, x, err, shown(p))
	}
	wantAlike(t, p, m, n)
}

// P1605, P1606, P1607: programs by chance: a machine that is never frozen, and one that is frozen and thawed ahead of some days, some times, also where it is over.
func TestFrozenOnAnyDay(t *testing.T) {
	t.Parallel()
	chance := rand.New(rand.NewSource(169))
	ends := map[api.Fault]int{}
	for range 1000 {
		p := sample.Sound(chance.Intn)
		rows := sample.Rows(chance.Intn, p.Horizon+chance.Intn(2), len(p.Names)+chance.Intn(2))
		m, n := behind(t, p), behind(t, p)
		often := 1 + chance.Intn(3)
		for day := range p.Horizon + 3 {
			for chance.Intn(often) == 0 && chance.Intn(4) > 0 {
				n = thawed(t, p, frozen(t, p, n))
				wantAlike(t, p, m, n)
			}
			wantSameDay(t, p, m, n, rowOf(rows, day))
		}
		ends[m.State().Fault]++
	}
	for fault := range api.NoObs + 1 {
		if ends[fault] < 25 {
			t.Errorf("the fault %d has come %d times", fault, ends[fault])
		}
	}
}

// P1606, P1607: from each day on a machine that was thawed there goes on to the end, beside all others.
func TestThawedOnEachDay(t *testing.T) {
	t.Parallel()
	chance := rand.New(rand.NewSource(170))
	for range 500 {
		p := sample.Sound(chance.Intn)
		rows := sample.Rows(chance.Intn, p.Horizon+1, len(p.Names))
		out, _ := machine.Run(p, rows)
		m := behind(t, p)
		for day := range p.Horizon + 2 {
			b := frozen(t, p, m)
			n := thawed(t, p, b)
			var flows []api.Flow
			for later := day; !n.Over(); later++ {
				f, _, _ := n.Day(rowOf(rows, later))
				flows = append(flows, f...)
			}
			first := slices.IndexFunc(out.Flows, func(f api.Flow) bool { return f.Day >= day })
			if first < 0 {
				first = len(out.Flows)
			}
			if s := n.State(); !slices.Equal(flows, out.Flows[first:]) || s.Fault != out.Fault || s.Day != out.Day {
				t.Fatalf("from day %d on: %v, %+v, want %+v:\n%s", day, flows, s, out, shown(p))
			}
			if !bytes.Equal(frozen(t, p, m), b) {
				t.Fatalf("the machine that was frozen on day %d has changed", day)
			}
			m.Day(rowOf(rows, day))
		}
	}
}

// P1605: Freeze is Encode of the state, whatever program the machine is of.
func TestMachinesOfOtherPrograms(t *testing.T) {
	t.Parallel()
	chance := rand.New(rand.NewSource(171))
	told := map[api.Errno]int{}
	for range 4000 {
		p, q := sample.Sound(chance.Intn), sample.Sound(chance.Intn)
		s := sample.State(chance.Intn, p)
		m, _ := machine.Resume(p, s)
		want, e := plainEncode(q, s)
		b, err := save.Freeze(q, m)
		if err != e || !bytes.Equal(b, want) {
			t.Fatalf("Freeze = %x, %d, want %x, %d:\n%s", b, err, want, e, shown(q))
		}
		if !sameState(m.State(), s) {
			t.Fatalf("Freeze has changed the machine: %+v, %+v", s, m.State())
		}
		told[e]++
	}
	wantOften(t, told, 40, api.OK, api.ErrState)
}

// P1607: by hand: a fault, the day ahead of it and those behind; the last day and those behind.
func TestFaultsAndEnds(t *testing.T) {
	p := program(t, "names A; curs EUR; horizon 2; cells 1; slots 0; stack 2; day 0; obs A 0; store 0; end; day 1; load 0; obs A 1; add; flow EUR; load 0; flow EUR; end")
	for _, c := range []struct {
		rows  [][]api.Cell
		state api.State
	}{
		{[][]api.Cell{nil}, api.State{Today: 1, Steps: 1, Cells: []int{0}, Past: [][]api.Cell{{{}}}, Fault: api.NoObs}},
		{[][]api.Cell{seen(math.MaxInt), seen(1)}, api.State{Today: 2, Steps: 6, Cells: []int{math.MaxInt}, Past: [][]api.Cell{seen(1)}, Fault: api.Overflow, Day: 1}},
		{[][]api.Cell{seen(4), nil, seen(5)}, api.State{Today: 3, Steps: 10, Cells: []int{4}, Past: [][]api.Cell{seen(5)}}},
	} {
		m := behind(t, p)
		for _, row := range c.rows {
			m = thawed(t, p, frozen(t, p, thawed(t, p, frozen(t, p, m))))
			if m.Over() {
				t.Fatalf("over ahead of %v: %+v", row, m.State())
			}
			m.Day(row)
		}
		for range 3 {
			m = thawed(t, p, frozen(t, p, m))
			if !sameState(m.State(), c.state) || !m.Over() {
				t.Errorf("%+v, want %+v", m.State(), c.state)
			}
			if flows, fault, e := m.Day(seen(1)); len(flows) > 0 || fault != api.NoFault || e != api.ErrOver {
				t.Errorf("Day = %v, %d, %d", flows, fault, e)
			}
		}
	}
}

// P1602, P1603, P1607: programs that do nothing have states like others.
func TestNothing(t *testing.T) {
	for _, horizon := range []int{0, 1, 200, api.MaxHorizon} {
		p := api.Program{Horizon: horizon}
		m := behind(t, p)
		for day := range horizon + 1 {
			if day < 3 || day > horizon-3 {
				holdEncode(t, p, api.State{Today: day})
				m = thawed(t, p, frozen(t, p, m))
			}
			if m.Over() || m.State().Today != day {
				t.Fatalf("%+v on day %d", m.State(), day)
			}
			m.Day(nil)
		}
		if m = thawed(t, p, frozen(t, p, m)); !m.Over() || m.State().Today != horizon+1 {
			t.Errorf("%+v", m.State())
		}
		holdEncode(t, p, api.State{Today: horizon + 2})
	}
}
