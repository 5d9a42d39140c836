package legs_test

import (
	"fmt"
	"reflect"
	"slices"
	"testing"

	"payoff/api"
	"payoff/legs"
	"payoff/tree"
)

// deal reads a deal that begins on 1 January 2024 and observes A and B.
func deal(t *testing.T, parts string) api.Deal {
	t.Helper()
	d, at, e := tree.Parse("deal x { start 2024-01-01; observe A, B; " + parts + " }")
	if e != api.OK {
		t.Fatalf("%.200q is no deal: %d at %d", parts, e, at)
	}
	return d
}

// told: a deal's text.
func told(d api.Deal) string {
	text, e := tree.Print(d)
	if e != api.OK {
		return "no deal"
	}
	return text
}

// tidy: an action without the difference between no list and an empty one.
func tidy(a api.Action) api.Action {
	steps := a.Steps
	a.E, a.Steps = tidyX(a.E), nil
	for _, s := range steps {
		s.E = tidyX(s.E)
		a.Steps = append(a.Steps, s)
	}
	return a
}

func tidyX(x api.X) api.X {
	kids := x.Kids
	x.Kids = nil
	for _, kid := range kids {
		x.Kids = append(x.Kids, tidyX(kid))
	}
	return x
}

func sameActions(a, b []api.Action) bool {
	return slices.EqualFunc(a, b, func(a, b api.Action) bool { return reflect.DeepEqual(tidy(a), tidy(b)) })
}

func pays(day int, e api.X, steps ...api.Step) api.Action {
	return api.Action{Day: day, Kind: api.ActFlow, Cur: "EUR", E: e, Steps: steps}
}

func sets(day, cell int, e api.X, steps ...api.Step) api.Action {
	return api.Action{Day: day, Kind: api.ActSet, Cell: cell, E: e, Steps: steps}
}

func test(want bool, e api.X) api.Step { return api.Step{Kind: api.StepTest, Want: want, E: e} }

func times(e api.X) api.Step { return api.Step{Kind: api.StepTimes, E: e} }

func give() api.Step { return api.Step{Kind: api.StepGive} }

// wantActions: what Unroll makes of a contract.
func wantActions(t *testing.T, parts string, cells int, want ...api.Action) {
	t.Helper()
	wantUnrolled(t, deal(t, parts), cells, want...)
}

func wantUnrolled(t *testing.T, d api.Deal, cells int, want ...api.Action) {
	t.Helper()
	actions, n, e := legs.Unroll(d)
	if e != api.OK || n != cells || !sameActions(actions, want) {
		t.Errorf("Unroll(%.600s): %.2000s, %d, %d, want %.2000s, %d", told(d), fmt.Sprintf("%+v", actions), n, e, fmt.Sprintf("%+v", want), cells)
	}
}

// wantRefused: Unroll refuses a deal, and tells nothing beside it.
func wantRefused(t *testing.T, d api.Deal, want api.Errno) {
	t.Helper()
	if actions, n, e := legs.Unroll(d); len(actions) != 0 || n != 0 || e != want {
		t.Errorf("Unroll(%.200s): %d actions, %d, %d, want error %d", told(d), len(actions), n, e, want)
	}
}

// observed: rows of A alone.
func observed(numbers ...int) [][]api.Cell {
	var rows [][]api.Cell
	for _, n := range numbers {
		rows = append(rows, []api.Cell{{Has: true, V: n}})
	}
	return rows
}

func flow(day, amount int) api.Flow { return api.Flow{Day: day, Cur: "EUR", Amount: amount} }

// wantFault: what a contract comes to over those rows, up to a fault.
func wantFault(t *testing.T, contract string, rows [][]api.Cell, fault api.Fault, day int, flows ...api.Flow) {
	t.Helper()
	actions, cells, e := legs.Unroll(deal(t, "contract "+contract+";"))
	if e != api.OK {
		t.Errorf("Unroll(%.200s): %d", contract, e)
		return
	}
	out, e := legs.Play(actions, cells, rows)
	if e != api.OK || !slices.Equal(out.Flows, flows) || out.Fault != fault || out.Day != day {
		t.Errorf("%.200s: %+v, %d, want %v, fault %d on day %d", contract, out, e, flows, fault, day)
	}
}

func wantFlows(t *testing.T, contract string, rows [][]api.Cell, flows ...api.Flow) {
	t.Helper()
	wantFault(t, contract, rows, api.NoFault, 0, flows...)
}

func wantValue(t *testing.T, e api.X, rows [][]api.Cell, cells []int, want int, fault api.Fault) {
	t.Helper()
	if v, f := legs.Value(e, rows, cells); v != want || f != fault {
		t.Errorf("Value(%+v, %v, %v): %d, %d, want %d, %d", e, rows, cells, v, f, want, fault)
	}
}

// The chapter's examples. P901, P903
func TestExample1(t *testing.T) {
	wantActions(t, "contract pay(EUR, 100);", 0, pays(0, xNum(100)))
	wantActions(t, "contract give scale(A) delay(2) pay(EUR, 3 - 5);", 0, pays(2, op(api.XSub, xNum(3), xNum(5)), give(), times(xObs(0, 0))))
	wantFlows(t, "give scale(A) delay(2) pay(EUR, 3 - 5)", observed(7), flow(2, 14))
}

// P903
func TestExample2(t *testing.T) {
	wantFault(t, "give scale(A) delay(2) pay(EUR, 3 - 5)", nil, api.NoObs, 2)
}

// P901, P903
func TestExample3(t *testing.T) {
	above := op(api.XGt, xObs(0, 0), xNum(0))
	wantActions(t, "contract if (A > 0) pay(EUR, 1) else pay(EUR, 2);", 0, pays(0, xNum(1), test(true, above)), pays(0, xNum(2), test(false, above)))
	wantFlows(t, "if (A > 0) pay(EUR, 1) else pay(EUR, 2)", observed(0), flow(0, 2))
	wantFault(t, "if (A > 0) pay(EUR, 1) else pay(EUR, 2)", nil, api.NoObs, 0)
}

// P901
func TestExample4(t *testing.T) {
	on := func(day int) api.Action {
		return pays(day, op(api.XAdd, op(api.XMul, xNum(10), xNum(day)), xObs(0, day)))
	}
	wantActions(t, "contract for i in 0..4 step 2 pay(EUR, 10 * i + A);", 0, on(0), on(2), on(4))
}

// P901, P903
func TestExample5(t *testing.T) {
	on := func(day int) api.Action { return sets(day, 0, op(api.XAdd, xCell(0), xObs(0, day))) }
	wantActions(t, "contract accumulate s = 0 for i in 1..3 by s + A then pay(EUR, s);", 1,
		sets(0, 0, xNum(0)), on(1), on(2), on(3), pays(3, xCell(0)))
	wantFlows(t, "accumulate s = 0 for i in 1..3 by s + A then pay(EUR, s)", observed(5, 1, 2, 4), flow(3, 7))
}

// P901, P907
func TestExample6(t *testing.T) {
	is := func(n int) api.X { return op(api.XEq, xCell(0), xNum(n)) }
	asks := func(day int) api.Action {
		return sets(day, 0, op(api.XIf, is(0), op(api.XIf, op(api.XGt, xObs(0, day), xNum(9)), xNum(day+1), xNum(0)), xCell(0)))
	}
	one := func(day int) api.Action { return pays(day, xNum(1), test(true, is(day+1))) }
	wantActions(t, "contract when (A > 9) within 2 pay(EUR, 1) else pay(EUR, 2);", 1,
		asks(0), one(0), asks(1), one(1), asks(2), one(2), pays(2, xNum(2), test(true, is(0))))
	wantFlows(t, "when (A > 9) within 2 pay(EUR, 1) else pay(EUR, 2)", observed(1, 10, 10), flow(1, 1))
	wantFlows(t, "when (A > 9) within 2 pay(EUR, 1) else pay(EUR, 2)", observed(1, 2, 9), flow(2, 2))
}

// P901, P903
func TestExample7(t *testing.T) {
	wantActions(t, "contract let x = A in delay(3) pay(EUR, x);", 0, pays(3, xObs(0, 0)))
	wantFlows(t, "let x = A in delay(3) pay(EUR, x)", observed(4), flow(3, 4))
	wantFault(t, "let x = A in delay(3) pay(EUR, x)", nil, api.NoObs, 3)
}

// P903
func TestExample8(t *testing.T) {
	wantFault(t, "pay(EUR, 1) and pay(EUR, 1 / 0) and pay(EUR, 2)", nil, api.DivZero, 0, flow(0, 1))
}

// P903
func TestExample9(t *testing.T) {
	wantFault(t, "give pay(EUR, 0 - 9223372036854775807 - 1)", nil, api.Overflow, 0)
	wantFlows(t, "scale(2) pay(EUR, 0)", nil, flow(0, 0))
}

// P902
func TestExample10(t *testing.T) {
	bad := op(api.XDiv, xNum(1), xNum(0))
	wantValue(t, op(api.XAnd, xNum(5), xNum(7)), nil, nil, 1, api.NoFault)
	wantValue(t, op(api.XAdd, bad), nil, nil, 0, api.NoFault)
	wantValue(t, xObs(0, -1), observed(1), nil, 0, api.NoObs)
	wantValue(t, xCell(3), nil, []int{7, 8}, 0, api.NoFault)
	wantValue(t, op(api.XOr, op(api.XTrue), bad), nil, nil, 1, api.NoFault)
}
