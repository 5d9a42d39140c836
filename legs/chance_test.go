package legs_test

import (
	"math/rand"
	"reflect"
	"slices"
	"testing"

	"payoff/api"
	"payoff/check"
	"payoff/legs"
	"payoff/sample"
)

// rowsFor: observations for a deal: all of its days, or fewer.
func rowsFor(chance *rand.Rand, d api.Deal) [][]api.Cell {
	m, _ := check.Measure(d)
	days := m.Horizon + 1
	if chance.Intn(4) == 0 {
		days = chance.Intn(days + 1)
	}
	return sample.Rows(chance.Intn, days, len(d.Names))
}

func sameOutcome(a, b api.Outcome) bool {
	return slices.Equal(a.Flows, b.Flows) && a.Fault == b.Fault && a.Day == b.Day
}

// played: the outcome of actions that must be playable.
func played(t *testing.T, actions []api.Action, cells int, rows [][]api.Cell) api.Outcome {
	t.Helper()
	out, e := legs.Play(actions, cells, rows)
	if e != api.OK {
		t.Errorf("Play of what Unroll gives: %d", e)
	}
	return out
}

// P901, P903: deals by chance against the plain reading of the chapter.
func TestDealsByChance(t *testing.T) {
	t.Parallel()
	chance := rand.New(rand.NewSource(91))
	faults := map[api.Fault]int{}
	for range 4000 {
		d := sample.Deal(chance.Intn)
		actions, cells, e := legs.Unroll(d)
		want, wantCells := plainUnroll(t, d)
		if e != api.OK || cells != wantCells || !sameActions(actions, want) {
			t.Fatalf("Unroll(%s): %+v, %d, %d, want %+v, %d", told(d), actions, cells, e, want, wantCells)
		}
		for range 3 {
			rows := rowsFor(chance, d)
			out, e := legs.Play(actions, cells, rows)
			if wantOut, wantE := plainPlay(want, cells, rows); e != wantE || !sameOutcome(out, wantOut) {
				t.Fatalf("Play of %s over %v: %+v, %d, want %+v, %d", told(d), rows, out, e, wantOut, wantE)
			}
			faults[out.Fault]++
		}
	}
	for fault := range api.NoObs + 1 {
		if faults[fault] < 100 {
			t.Errorf("the fault %d has come %d times alone", fault, faults[fault])
		}
	}
}

// P906, P811: what is foretold of the actions.
func TestMeasuresForetellTheActions(t *testing.T) {
	t.Parallel()
	chance := rand.New(rand.NewSource(92))
	for range 3000 {
		d := sample.Deal(chance.Intn)
		m, _ := check.Measure(d)
		actions, cells, _ := legs.Unroll(d)
		nodes := 0
		for i, a := range actions {
			nodes += 2 + legs.Nodes(a.E)
			exprs := []api.X{a.E}
			for _, s := range a.Steps {
				nodes++
				if s.Kind != api.StepGive {
					nodes += legs.Nodes(s.E)
				}
				exprs = append(exprs, s.E)
			}
			for _, e := range exprs {
				for observable, day := range legs.Reads(e) {
					if observable < 0 || observable >= len(d.Names) || day < 0 || day > a.Day {
						t.Fatalf("action %d of %s, on day %d, looks at %d on day %d", i, told(d), a.Day, observable, day)
					}
				}
			}
			if a.Day > m.Horizon {
				t.Fatalf("action %d of %s on day %d, the horizon is %d", i, told(d), a.Day, m.Horizon)
			}
		}
		if len(actions) != m.Actions || nodes != m.Nodes || cells != m.Cells || plainRefusal(actions, cells) != api.OK {
			t.Fatalf("%s: %d actions of %d nodes, %d accumulators: %+v", told(d), len(actions), nodes, cells, m)
		}
	}
}

// upTo: the flows of an outcome up to a day, and the fault, if it lies there.
func upTo(out api.Outcome, day int) api.Outcome {
	out.Flows = slices.DeleteFunc(slices.Clone(out.Flows), func(f api.Flow) bool { return f.Day > day })
	if out.Fault != api.NoFault && out.Day > day {
		out.Fault, out.Day = api.NoFault, 0
	}
	return out
}

// P906: rows that agree up to a day.
func TestNoDayAheadIsLookedAt(t *testing.T) {
	t.Parallel()
	chance := rand.New(rand.NewSource(93))
	for range 3000 {
		d := sample.Deal(chance.Intn)
		actions, cells, _ := legs.Unroll(d)
		rows, others := rowsFor(chance, d), rowsFor(chance, d)
		if len(rows) == 0 {
			continue
		}
		day := chance.Intn(len(rows))
		others = append(slices.Clone(rows[:day+1]), others[min(day+1, len(others)):]...)
		one, two := upTo(played(t, actions, cells, rows), day), upTo(played(t, actions, cells, others), day)
		if !sameOutcome(one, two) {
			t.Fatalf("%s: over %v: %+v, over %v: %+v", told(d), rows, one, others, two)
		}
	}
}

// curs: the currencies that flow.
func curs(out api.Outcome) []string {
	var list []string
	for _, f := range out.Flows {
		if !slices.Contains(list, f.Cur) {
			list = append(list, f.Cur)
		}
	}
	return list
}

// P907: the two sides of an if and of a when, each with a currency of its own.
func TestOneSideAloneComes(t *testing.T) {
	t.Parallel()
	chance := rand.New(rand.NewSource(94))
	came := map[string]int{}
	for came["EUR"] < 500 || came["USD"] < 500 {
		d := sample.Deal(chance.Intn)
		if d.Body.Kind != api.CIf && d.Body.Kind != api.CWhen {
			continue
		}
		d.Body.Kids = []api.Con{sample.Paying(d.Body.Kids[0], "EUR"), sample.Paying(d.Body.Kids[1], "USD")}
		actions, cells, _ := legs.Unroll(d)
		out := played(t, actions, cells, rowsFor(chance, d))
		sides := curs(out)
		if len(sides) > 1 {
			t.Fatalf("%s: %+v", told(d), out)
		}
		for _, side := range sides {
			came[side]++
		}
	}
}

// P907: a when's first kid, acquired on many days, comes on one of them alone, and on the first on which the condition holds.
func TestWhenComesOnce(t *testing.T) {
	t.Parallel()
	chance := rand.New(rand.NewSource(95))
	for range 500 {
		var rows [][]api.Cell
		first := -1
		for day := range 5 {
			hit := chance.Intn(4) == 0
			if hit && first < 0 {
				first = day
			}
			rows = append(rows, observed(map[bool]int{true: 1}[hit])...)
		}
		want := flow(first+1, first)
		if first < 0 {
			want = api.Flow{Day: 6, Cur: "USD", Amount: 4}
		}
		text := "contract when (A == 1) within 4 let d = day in delay(1) pay(EUR, d) else let d = day in delay(2) pay(USD, d);"
		actions, cells, _ := legs.Unroll(deal(t, text))
		if out := played(t, actions, cells, rows); out.Fault != api.NoFault || !slices.Equal(out.Flows, []api.Flow{want}) {
			t.Errorf("over %v: %+v, want %+v", rows, out, want)
		}
	}
}

// handmade: an expression by chance, well shaped in most places.
func handmade(chance *rand.Rand, depth int) api.X {
	if chance.Intn(40) == 0 {
		e := api.X{Op: chance.Intn(34) - 1, Num: chance.Intn(5), Day: chance.Intn(4)}
		for range chance.Intn(5) {
			e.Kids = append(e.Kids, handmade(chance, max(depth-1, 0)))
		}
		return e
	}
	leaves := []api.X{xNum(chance.Intn(19) - 9), xNum(-1 << 63), xNum(1<<63 - 1), op(api.XTrue), op(api.XFalse), xObs(chance.Intn(4)-1, chance.Intn(6)-1), xCell(chance.Intn(5) - 1)}
	if depth == 0 {
		return leaves[chance.Intn(len(leaves))]
	}
	e := api.X{Op: api.XNeg + chance.Intn(api.XRatio-api.XNeg+1), Num: chance.Intn(7) - 1}
	for range kidCounts()[e.Op] {
		e.Kids = append(e.Kids, handmade(chance, depth-1-chance.Intn(depth)))
	}
	return e
}

// P902, P904, P905: expressions by hand against the plain reading of the chapter.
func TestExpressionsByChance(t *testing.T) {
	t.Parallel()
	chance := rand.New(rand.NewSource(96))
	for range 60000 {
		e := handmade(chance, chance.Intn(5))
		rows, cells := sample.Rows(chance.Intn, 4, 3), []int{chance.Intn(3), -1, 1 << 62}
		want, fault := plain{rows, cells, kidCounts()}.value(e)
		wantValue(t, e, rows, cells, want, fault)
		if n := legs.Nodes(e); n != plainNodes(e) {
			t.Errorf("Nodes(%+v): %d", e, n)
		}
		if reads := list(legs.Reads(e)); !slices.Equal(reads, plainReads(e)) {
			t.Errorf("Reads(%+v): %v", e, reads)
		}
		if t.Failed() {
			return
		}
	}
}

// action: an action by chance, seldom not as it must be.
func action(chance *rand.Rand, day int) api.Action {
	a := api.Action{Day: day, Kind: 1 + chance.Intn(2), Cur: []string{"EUR", "USD"}[chance.Intn(2)], Cell: chance.Intn(3), E: handmade(chance, chance.Intn(3))}
	for range chance.Intn(4) {
		a.Steps = append(a.Steps, api.Step{Kind: 1 + chance.Intn(3), Want: chance.Intn(2) == 0, E: handmade(chance, chance.Intn(3))})
	}
	switch chance.Intn(200) {
	case 0:
		a.Kind = chance.Intn(5) - 1
	case 1:
		a.Cur = []string{"", "eur", "EURO", "E1R"}[chance.Intn(4)]
	case 2:
		a.Cell = []int{-1, 3, 1 << 62}[chance.Intn(3)]
	case 3:
		a.Day = []int{-1, 3660, 3661, 0}[chance.Intn(4)]
	case 4:
		a.Steps = append(a.Steps, api.Step{Kind: []int{0, 4, -1}[chance.Intn(3)]})
	}
	return a
}

// P903: actions by hand against the plain reading of the chapter.
func TestActionsByChance(t *testing.T) {
	t.Parallel()
	chance := rand.New(rand.NewSource(97))
	errors := map[api.Errno]int{}
	for range 30000 {
		var actions []api.Action
		day := 0
		for range chance.Intn(8) {
			day += chance.Intn(2)
			actions = append(actions, action(chance, day))
		}
		rows, cells := sample.Rows(chance.Intn, 4, 3), 3
		out, e := legs.Play(actions, cells, rows)
		want, wantE := plainPlay(actions, cells, rows)
		if e != wantE || !sameOutcome(out, want) || e != api.OK && !reflect.DeepEqual(out, api.Outcome{}) {
			t.Fatalf("Play(%+v, %d, %v): %+v, %d, want %+v, %d", actions, cells, rows, out, e, want, wantE)
		}
		errors[e]++
	}
	for _, e := range []api.Errno{api.OK, api.ErrArg, api.ErrRange} {
		if errors[e] < 100 {
			t.Errorf("the error %d has come %d times alone", e, errors[e])
		}
	}
}
