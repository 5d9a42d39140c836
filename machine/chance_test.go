package machine_test

import (
	"math/rand"
	"testing"

	"payoff/api"
	"payoff/machine"
	"payoff/sample"
	"payoff/verify"
)

// rowsFor: observations for a program by chance: too few days or too many, rows too short or too long, numbers in cells that are missing.
func rowsFor(chance *rand.Rand, p api.Program) [][]api.Cell {
	rows := sample.Rows(chance.Intn, p.Horizon+1, len(p.Names)+chance.Intn(2))
	switch chance.Intn(6) {
	case 0:
		rows = rows[:chance.Intn(len(rows)+1)]
	case 1:
		rows = append(rows, seen(1, 2), nil)
	}
	return rows
}

// rowOf: a day's row, if there is one.
func rowOf(rows [][]api.Cell, day int) []api.Cell {
	if day < len(rows) {
		return rows[day]
	}
	return nil
}

// tally counts what came, and wants enough of all.
type tally map[api.Fault]int

func (n tally) want(t *testing.T, count int) {
	t.Helper()
	for fault := range api.NoObs + 1 {
		if n[fault] < count {
			t.Errorf("the fault %d has come %d times alone", fault, n[fault])
		}
	}
}

// P1501, P1503 to P1507: programs by chance, day by day, against the plain reading; on each day a further machine is resumed, and all of them go on alike.
func TestDaysByChance(t *testing.T) {
	t.Parallel()
	chance := rand.New(rand.NewSource(151))
	faults := tally{}
	for range 4000 {
		p := sample.Sound(chance.Intn)
		rows := rowsFor(chance, p)
		proof, _, _, _ := verify.Verify(p)
		m, machines := plainNew(p), []*machine.Machine{started(t, p)}
		wantState(t, machines[0], m.state(), false)
		for day := range p.Horizon + 3 {
			s := machines[0].State()
			if !plainIsState(p, s) || s.Steps > proof.Fuel {
				t.Fatalf("State = %+v, the proof is %+v:\n%s", s, proof, shown(p))
			}
			if chance.Intn(2) == 0 {
				machines = append(machines, wantResume(t, p, s, api.OK))
			}
			holdDay(t, m, rowOf(rows, day), machines...)
		}
		faults[m.now.Fault]++
	}
	faults.want(t, 100)
}

// P1505: runs of programs by chance.
func TestRunsByChance(t *testing.T) {
	t.Parallel()
	chance := rand.New(rand.NewSource(152))
	faults := tally{}
	for range 10000 {
		p := sample.Sound(chance.Intn)
		rows := rowsFor(chance, p)
		m := plainNew(p)
		var want api.Outcome
		for !m.over() {
			flows, _, _ := m.day(rowOf(rows, m.now.Today))
			want.Flows = append(want.Flows, flows...)
		}
		want.Fault, want.Day = m.now.Fault, m.now.Day
		wantRun(t, p, rows, want, api.OK)
		faults[want.Fault]++
	}
	faults.want(t, 200)
}

// P1502, P1506, P1507: states by chance are taken, and what is resumed goes on by the plain reading, in bounds.
func TestStatesByChance(t *testing.T) {
	t.Parallel()
	chance := rand.New(rand.NewSource(153))
	for range 4000 {
		p := sample.Sound(chance.Intn)
		s := sample.State(chance.Intn, p)
		if !plainIsState(p, s) {
			t.Fatalf("%+v is no state of:\n%s", s, shown(p))
		}
		proof, _, _, _ := verify.Verify(p)
		m, machines := plainResume(p, s), []*machine.Machine{wantResume(t, p, s, api.OK)}
		wantState(t, machines[0], s, m.over())
		rows := rowsFor(chance, p)
		for day := s.Today; day < p.Horizon+2; day++ {
			machines = append(machines, wantResume(t, p, machines[0].State(), api.OK))
			holdDay(t, m, rowOf(rows, day), machines...)
			if steps := machines[0].State().Steps; steps > proof.Fuel {
				t.Fatalf("%d steps of %d:\n%s", steps, proof.Fuel, shown(p))
			}
		}
	}
}

// P1502: states with something changed are taken just if they are states of the program.
func TestSpoiltStates(t *testing.T) {
	t.Parallel()
	chance := rand.New(rand.NewSource(154))
	told := map[bool]int{}
	for range 20000 {
		p := sample.Sound(chance.Intn)
		s := sample.State(chance.Intn, p)
		for range 1 + chance.Intn(2) {
			sample.Spoil(chance.Intn, &s)
		}
		right := plainIsState(p, s)
		told[right]++
		if right {
			wantResume(t, p, s, api.OK)
		} else {
			wantResume(t, p, s, api.ErrState)
		}
	}
	if told[true] < 2000 || told[false] < 2000 {
		t.Errorf("%v", told)
	}
}

// P1502: what is a state of one program is one of another only if it fits that.
func TestStatesOfOtherPrograms(t *testing.T) {
	t.Parallel()
	chance := rand.New(rand.NewSource(155))
	for range 5000 {
		p, q := sample.Sound(chance.Intn), sample.Sound(chance.Intn)
		s := sample.State(chance.Intn, p)
		if plainIsState(q, s) {
			wantResume(t, q, s, api.OK)
		} else {
			wantResume(t, q, s, api.ErrState)
		}
	}
}

// P1501, P1502, P1505: programs that are refused, with the error of Verify, ahead of what is wrong with the state.
func TestRefusedPrograms(t *testing.T) {
	t.Parallel()
	chance := rand.New(rand.NewSource(156))
	errors := map[api.Errno]int{}
	for turn := range 6000 {
		p := sample.Program(chance.Intn)
		if turn%2 == 0 {
			p = sample.Sound(chance.Intn)
			for _, s := range p.Days {
				s.Code[chance.Intn(len(s.Code))].Op = chance.Intn(api.OpFlow + 2)
			}
		}
		_, _, _, e := verify.Verify(p)
		errors[e]++
		if e != api.OK {
			refusedBy(t, p, e)
		}
	}
	for _, e := range []api.Errno{api.ErrCanon, api.ErrStack, api.ErrProof, api.ErrSort, api.ErrBack, api.ErrJump, api.ErrSlot} {
		if errors[e] < 5 {
			t.Errorf("%d came %d times", e, errors[e])
		}
	}
}
