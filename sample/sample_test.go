package sample_test

import (
	"math/rand"
	"strings"
	"testing"

	"payoff/api"
	"payoff/check"
	"payoff/image"
	"payoff/legs"
	"payoff/machine"
	"payoff/sample"
	"payoff/table"
	"payoff/verify"
)

// kinds counts what deals are made of.
type kinds struct {
	contracts, operators, ranges map[int]int
}

func (k kinds) expr(e api.Expr) {
	k.operators[e.Op]++
	for _, kid := range e.Kids {
		k.expr(kid)
	}
}

func (k kinds) con(c api.Con) {
	k.contracts[c.Kind]++
	k.ranges[c.Range.Kind]++
	for _, e := range c.Exprs {
		k.expr(e)
	}
	for _, kid := range c.Kids {
		k.con(kid)
	}
}

func TestDealsAreOfAllKinds(t *testing.T) {
	k := kinds{map[int]int{}, map[int]int{}, map[int]int{}}
	chance := rand.New(rand.NewSource(1))
	for range 2000 {
		d := sample.Deal(chance.Intn)
		m, e := check.Measure(d)
		if e != api.OK || check.Within(m) != api.OK || m.Actions == 0 {
			t.Fatalf("%+v: %+v, %d", d, m, e)
		}
		k.con(d.Body)
		for _, def := range d.Defs {
			k.expr(def.Body)
		}
	}
	for kind := api.CZero; kind <= api.CWhen; kind++ {
		if k.contracts[kind] < 100 {
			t.Errorf("contracts of the kind %d: %d", kind, k.contracts[kind])
		}
	}
	for op := api.XNum; op <= api.XCall; op++ {
		if k.operators[op] < 100 {
			t.Errorf("operators %d: %d", op, k.operators[op])
		}
	}
	if k.ranges[api.RangeDays] < 100 || k.ranges[api.RangeDates] < 100 {
		t.Errorf("ranges: %v", k.ranges)
	}
}

// Whatever chance tells, an answer comes.
func TestChanceThatIsNone(t *testing.T) {
	for _, chance := range []sample.Chance{func(int) int { return 0 }, func(n int) int { return n - 1 }} {
		d := sample.Deal(chance)
		if m, e := check.Measure(d); e != api.OK || m.Actions == 0 {
			t.Errorf("%+v: %+v, %d", d, m, e)
		}
		sample.Rows(chance, 3, 2)
		if _, e := legs.Play(sample.Actions(chance, 2, 2, 3), 2, nil); e != api.OK {
			t.Errorf("Actions: %d", e)
		}
		if p := sample.Program(chance); image.Canon(p) != api.OK {
			t.Errorf("Program: %+v", p)
		}
		p := sample.Sound(chance)
		if _, _, _, e := verify.Verify(p); e != api.OK {
			t.Errorf("Sound: %d", e)
		}
		s := sample.State(chance, p)
		if _, e := machine.Resume(p, s); e != api.OK {
			t.Errorf("State: %d", e)
		}
		sample.Spoil(chance, &s)
		if e := table.Valid(sample.Table(chance, []string{"A", "B"}, 3)); e != api.OK {
			t.Errorf("Table: %d", e)
		}
	}
}

func (k kinds) leg(x api.X) {
	k.operators[x.Op]++
	for _, kid := range x.Kids {
		k.leg(kid)
	}
}

func TestActionsAreOfAllKinds(t *testing.T) {
	k := kinds{operators: map[int]int{}}
	acts, steps := map[int]int{}, map[int]int{}
	chance := rand.New(rand.NewSource(2))
	for range 2000 {
		actions := sample.Actions(chance.Intn, 2, 2, 5)
		if _, e := legs.Play(actions, 2, nil); e != api.OK || len(actions) > 0 && actions[len(actions)-1].Day > 5 {
			t.Fatalf("%+v: %d", actions, e)
		}
		for _, a := range actions {
			acts[a.Kind]++
			k.leg(a.E)
			for _, s := range a.Steps {
				steps[s.Kind]++
				k.leg(s.E)
			}
		}
	}
	for op := api.XNum; op <= api.XCell; op++ {
		if op != api.XName && op != api.XDay && op != api.XDate && op != api.XThird && op != api.XCall && k.operators[op] < 100 {
			t.Errorf("operators %d: %d", op, k.operators[op])
		}
	}
	for _, kind := range []int{api.StepTest, api.StepTimes, api.StepGive} {
		if steps[kind] < 100 {
			t.Errorf("steps of the kind %d: %d", kind, steps[kind])
		}
	}
	if acts[api.ActFlow] < 100 || acts[api.ActSet] < 100 {
		t.Errorf("actions: %v", acts)
	}
}

// What needs an observable or an accumulator is not made where there is none.
func TestActionsOfLittle(t *testing.T) {
	chance := rand.New(rand.NewSource(3))
	for range 500 {
		for _, a := range sample.Actions(chance.Intn, 0, 0, 0) {
			k := kinds{operators: map[int]int{}}
			k.leg(a.E)
			if a.Kind != api.ActFlow || a.Day != 0 || k.operators[api.XObs]+k.operators[api.XCell] > 0 {
				t.Fatalf("%+v", a)
			}
		}
	}
}

func TestPaying(t *testing.T) {
	pay := api.Con{Kind: api.CPay, Cur: "EUR"}
	both := api.Con{Kind: api.CAnd, Kids: []api.Con{pay, {Kind: api.CGive, Kids: []api.Con{pay}}}}
	other := sample.Paying(both, "USD")
	if other.Kids[0].Cur != "USD" || other.Kids[1].Kids[0].Cur != "USD" || both.Kids[0].Cur != "EUR" || both.Kids[1].Kids[0].Cur != "EUR" {
		t.Errorf("%+v of %+v", other, both)
	}
}

func TestProgramsAreOfAllKinds(t *testing.T) {
	ops, lists := map[int]int{}, map[int]int{}
	chance := rand.New(rand.NewSource(5))
	for range 2000 {
		p := sample.Program(chance.Intn)
		if e := image.Canon(p); e != api.OK {
			t.Fatalf("%+v: %d", p, e)
		}
		lists[len(p.Days)]++
		for _, s := range p.Days {
			for _, i := range s.Code {
				ops[i.Op]++
			}
		}
	}
	for op := api.OpEnd; op <= api.OpFlow; op++ {
		if ops[op] < 100 {
			t.Errorf("instructions %d: %d", op, ops[op])
		}
	}
	for days := range 6 {
		if lists[days] < 50 {
			t.Errorf("programs of %d days: %d", days, lists[days])
		}
	}
}

func TestSoundProgramsAreOfAllKinds(t *testing.T) {
	ops, lists, stacks, backs := map[int]int{}, map[int]int{}, map[int]int{}, map[int]int{}
	chance := rand.New(rand.NewSource(6))
	for range 4000 {
		p := sample.Sound(chance.Intn)
		proof, segment, place, e := verify.Verify(p)
		if e != api.OK {
			t.Fatalf("%+v: %d, %d, %d", p, segment, place, e)
		}
		lists[len(p.Days)]++
		stacks[p.Stack]++
		backs[proof.Back]++
		for _, s := range p.Days {
			for _, i := range s.Code {
				ops[i.Op]++
			}
		}
	}
	for op := api.OpEnd; op <= api.OpFlow; op++ {
		if ops[op] < 100 {
			t.Errorf("instructions %d: %d", op, ops[op])
		}
	}
	for n := range 6 {
		if lists[n] < 50 || stacks[n] < 50 || backs[n] < 50 {
			t.Errorf("programs of %d days: %d; with stacks so high: %d; that look so far back: %d", n, lists[n], stacks[n], backs[n])
		}
	}
}

func TestStatesAreOfAllKinds(t *testing.T) {
	days, rows, faults, holes := map[int]int{}, map[int]int{}, map[api.Fault]int{}, map[bool]int{}
	chance := rand.New(rand.NewSource(7))
	for range 4000 {
		p := sample.Sound(chance.Intn)
		s := sample.State(chance.Intn, p)
		if _, e := machine.Resume(p, s); e != api.OK {
			t.Fatalf("%+v of %+v: %d", s, p, e)
		}
		days[s.Today]++
		rows[len(s.Past)]++
		faults[s.Fault]++
		for _, row := range s.Past {
			for _, c := range row {
				holes[c.Has]++
			}
		}
	}
	for n := range 6 {
		if days[n] < 50 || rows[n] < 50 {
			t.Errorf("states ahead of day %d: %d; with %d rows: %d", n, days[n], n, rows[n])
		}
	}
	for fault := range api.NoObs + 1 {
		if faults[fault] < 50 {
			t.Errorf("states with the fault %d: %d", fault, faults[fault])
		}
	}
	if holes[true] < 100 || holes[false] < 50 {
		t.Errorf("cells: %v", holes)
	}
}

func TestSpoiltStatesAreOfBothKinds(t *testing.T) {
	told := map[api.Errno]int{}
	chance := rand.New(rand.NewSource(8))
	for range 2000 {
		p := sample.Sound(chance.Intn)
		s := sample.State(chance.Intn, p)
		sample.Spoil(chance.Intn, &s)
		_, e := machine.Resume(p, s)
		told[e]++
	}
	if told[api.OK] < 200 || told[api.ErrState] < 200 {
		t.Errorf("%v", told)
	}
}

func TestTablesAreOfAllKinds(t *testing.T) {
	cells, orders := map[bool]int{}, map[string]int{}
	chance := rand.New(rand.NewSource(9))
	for range 2000 {
		x := sample.Table(chance.Intn, []string{"A", "B"}, chance.Intn(5))
		if e := table.Valid(x); e != api.OK {
			t.Fatalf("%+v: %d", x, e)
		}
		orders[strings.Join(x.Names, " ")]++
		for _, row := range x.Rows {
			for _, cell := range row {
				cells[cell.Has]++
			}
		}
	}
	for _, names := range []string{"", "A", "A B", "B A", "OTHER B A", "Z_9 A OTHER B"} {
		if orders[names] < 5 {
			t.Errorf("tables of the names %q: %d", names, orders[names])
		}
	}
	if cells[true] < 1000 || cells[false] < 100 {
		t.Errorf("cells: %v", cells)
	}
}

// A table has no more names than it may, and those that are told once.
func TestTablesOfManyNames(t *testing.T) {
	names := []string{"OTHER"}
	for len(names) < api.MaxNames {
		names = append(names, "N"+strings.Repeat("X", len(names)%30)+strings.Repeat("Y", len(names)/30))
	}
	chance := rand.New(rand.NewSource(10))
	for range 200 {
		if e := table.Valid(sample.Table(chance.Intn, names, 2)); e != api.OK {
			t.Fatalf("%d", e)
		}
	}
	if x := sample.Table(func(n int) int { return n - 1 }, names, 2); len(x.Names) != api.MaxNames {
		t.Errorf("%d names", len(x.Names))
	}
}
