package lower_test

import (
	"slices"
	"testing"

	"payoff/api"
	"payoff/dag"
	"payoff/lower"
)

// P1701: each operator by itself, of constants that no other has.
func TestOperators(t *testing.T) {
	numbers := []api.X{xNum(10), xNum(11), xNum(12)}
	truths := []api.X{op(api.XTrue), op(api.XFalse), op(api.XTrue)}
	for operator, want := range map[int]string{
		api.XNeg: "const 10; neg", api.XAbs: "const 10; abs",
		api.XAdd: "const 10; const 11; add", api.XSub: "const 10; const 11; sub", api.XMul: "const 10; const 11; mul", api.XDiv: "const 10; const 11; div",
		api.XMod: "const 10; const 11; mod", api.XMin: "const 10; const 11; min", api.XMax: "const 10; const 11; max",
	} {
		kids := numbers[:2]
		if operator == api.XNeg || operator == api.XAbs {
			kids = numbers[:1]
		}
		wantBoth(t, form(t, false, pays(0, op(operator, kids...))), want+"; flow EUR; end")
	}
	for operator, want := range map[int]string{api.XLt: "lt", api.XLe: "le", api.XGt: "gt", api.XGe: "ge", api.XEq: "eq", api.XNe: "ne"} {
		wantBoth(t, form(t, false, sets(0, 0, xNum(1), test(true, op(operator, numbers[:2]...)))), "const 10; const 11; "+want+"; zero 2; const 1; store 0; end")
	}
	for rounding, want := range []string{"down", "floor", "ceil", "half_up", "half_even"} {
		wantBoth(t, form(t, false, pays(0, api.X{Op: api.XRatio, Num: rounding, Kids: numbers})), "const 10; const 11; const 12; ratio "+want+"; flow EUR; end")
	}
	for operator, want := range map[int]string{
		api.XNot: "bool 1; not", api.XAnd: "bool 1; zero 2; bool 0; jump 1; bool 0", api.XOr: "bool 1; zero 2; bool 1; jump 1; bool 0",
		api.XIf: "bool 1; zero 2; bool 0; jump 1; bool 1",
	} {
		kids := truths[:2]
		if operator == api.XNot {
			kids = truths[:1]
		} else if operator == api.XIf {
			kids = truths
		}
		wantBoth(t, form(t, false, pays(0, xNum(1), test(true, op(operator, kids...)))), want+"; zero 2; const 1; flow EUR; end")
	}
}

// P1701: jumps pass over all of a kid's code, with the keeps in it.
func TestForks(t *testing.T) {
	deep := op(api.XIf, positive, op(api.XIf, op(api.XLt, xB, xNum(1)), square, xB), op(api.XNeg, square))
	wantBoth(t, form(t, false, pays(0, deep)),
		"obs A 0; const 0; gt; zero 10; obs B 0; const 1; lt; zero 4; obs A 0; obs A 0; mul; jump 1; obs B 0; jump 4; obs A 0; obs A 0; mul; neg; flow EUR; end")
	twice := op(api.XAdd, op(api.XIf, positive, op(api.XAdd, square, square), xNum(2)), xNum(1))
	wantCode(t, form(t, false, pays(0, twice)), true,
		"obs A 0; const 0; gt; zero 7; obs A 0; obs A 0; mul; keep 0; get 0; add; jump 1; const 2; const 1; add; flow EUR; end", 3)
	either := op(api.XOr, positive, op(api.XEq, op(api.XAdd, square, square), xNum(2)))
	wantCode(t, form(t, false, pays(0, xNum(1), test(false, either))), true,
		"obs A 0; const 0; gt; zero 2; bool 1; jump 8; obs A 0; obs A 0; mul; keep 0; get 0; add; const 2; eq; not; zero 2; const 1; flow EUR; end", 3)
}

// P1701: failing places of several heights, of an action that comes.
func TestFailingPlaces(t *testing.T) {
	a, yes := times(xA), test(true, op(api.XTrue))
	for _, c := range []struct {
		steps []api.Step
		want  string
	}{
		{[]api.Step{yes}, "bool 1; zero 2; const 7; flow EUR; end"},
		{[]api.Step{yes, a}, "bool 1; zero 4; obs A 0; const 7; mul; flow EUR; end"},
		{[]api.Step{a, yes}, "obs A 0; bool 1; zero 4; const 7; mul; flow EUR; jump 1; drop; end"},
		{[]api.Step{a, yes, a}, "obs A 0; bool 1; zero 6; obs A 0; const 7; mul; mul; flow EUR; jump 1; drop; end"},
		{[]api.Step{a, a, yes}, "obs A 0; obs A 0; bool 1; zero 5; const 7; mul; mul; flow EUR; jump 2; drop; drop; end"},
		{[]api.Step{yes, a, yes, a, yes, yes}, "bool 1; zero 15; obs A 0; bool 1; zero 11; obs A 0; bool 1; zero 7; bool 1; zero 5; const 7; mul; mul; flow EUR; jump 2; drop; drop; end"},
		{[]api.Step{yes, a, a, yes}, "bool 1; zero 11; obs A 0; obs A 0; bool 1; zero 5; const 7; mul; mul; flow EUR; jump 2; drop; drop; end"},
		{[]api.Step{a, yes, give(), a, give(), give()}, "obs A 0; bool 1; zero 9; obs A 0; const 7; neg; neg; mul; neg; mul; flow EUR; jump 1; drop; end"},
		{[]api.Step{give(), a}, "obs A 0; const 7; mul; neg; flow EUR; end"},
	} {
		wantBoth(t, form(t, false, pays(0, xNum(7), c.steps...)), c.want)
	}
	wantBoth(t, form(t, false, sets(0, 2, xNum(7), yes, test(false, op(api.XTrue)))), "bool 1; zero 5; bool 1; not; zero 2; const 7; store 0; end")
}

// P1701: failing places of an action that is cut.
func TestFailingPlacesOfCutActions(t *testing.T) {
	a, yes := times(xA), test(true, positive)
	for _, c := range []struct {
		steps []api.Step
		want  string
	}{
		{[]api.Step{yes}, "obs A 0; const 0; gt; zero 0; end"},
		{[]api.Step{yes, a}, "obs A 0; const 0; gt; zero 2; obs A 0; drop; end"},
		{[]api.Step{a, yes}, "obs A 0; obs A 0; const 0; gt; zero 0; drop; end"},
		{[]api.Step{a, yes, a}, "obs A 0; obs A 0; const 0; gt; zero 2; obs A 0; drop; drop; end"},
		{[]api.Step{a, a}, "obs A 0; obs A 0; drop; drop; end"},
	} {
		wantBoth(t, form(t, true, pays(0, xNum(7), append(slices.Clone(c.steps), never)...)), c.want)
	}
	wantCode(t, form(t, true, pays(0, xNum(7), yes, a, test(false, positive), never)), true,
		"obs A 0; const 0; gt; keep 0; zero 5; obs A 0; get 0; not; zero 0; drop; end", 2)
}

// P1701: the lists: what is named, rising, whatever the order in which it comes; accumulators are numbered anew.
func TestLists(t *testing.T) {
	usd := pays(0, xNum(-5))
	usd.Cur = "USD"
	chf := pays(2, op(api.XAdd, xObs(3, 1), xNum(1<<62)))
	chf.Cur = "CHF"
	n, e := dag.Norm([]string{"D", "Z", "B1", "B"}, []api.Action{usd, sets(0, 7, xObs(0, 0)), sets(1, 2, op(api.XMul, xCell(5), xNum(3))), chf, pays(2, xCell(7)), pays(4, xNum(3))}, 9, 6, true)
	if e != api.OK {
		t.Fatal(e)
	}
	p := hold(t, n)
	if !slices.Equal(p.Names, []string{"B", "D"}) || !slices.Equal(p.Curs, []string{"CHF", "EUR", "USD"}) || !slices.Equal(p.Pool, []int{-5, 3, 1 << 62}) || p.Cells != 3 || p.Horizon != 6 || len(p.Days) != 4 {
		t.Errorf("%+v", p)
	}
	for segment, want := range []string{"const -5; flow USD; obs D 0; store 2; end", "load 1; const 3; mul; store 0; end", "obs B 1; const 4611686018427387904; add; flow CHF; load 2; flow EUR; end", "const 3; flow EUR; end"} {
		if got := words(p, segment); got != want {
			t.Errorf("%s, want %s", got, want)
		}
	}
}

// P1701: what an action that is cut would have done is named nowhere.
func TestListsOfCutActions(t *testing.T) {
	jpy := pays(0, xNum(9), times(xB), never)
	jpy.Cur = "JPY"
	p := hold(t, form(t, true, jpy, sets(0, 3, xNum(8), test(true, positive), never)))
	if !slices.Equal(p.Names, []string{"A", "B"}) || len(p.Curs) != 0 || !slices.Equal(p.Pool, []int{0}) || p.Cells != 0 || p.Stack != 2 {
		t.Errorf("%+v", p)
	}
}

// P1701, P1702: what is surely kept where ways meet.
func TestSurelyKept(t *testing.T) {
	cube := op(api.XMul, square, xA)
	for _, c := range []struct {
		n    api.Normal
		want string
		kept []int
	}{
		// On both ways of an if.
		{form(t, false, pays(0, op(api.XIf, positive, square, op(api.XNeg, square))), pays(0, square)),
			"obs A 0; const 0; gt; zero 5; obs A 0; obs A 0; mul; keep 0; jump 5; obs A 0; obs A 0; mul; keep 0; neg; flow EUR; get 0; flow EUR; end", []int{3}},
		// On one of them.
		{form(t, false, pays(0, op(api.XIf, positive, square, xA)), pays(0, square)),
			"obs A 0; const 0; gt; zero 4; obs A 0; obs A 0; mul; jump 1; obs A 0; flow EUR; obs A 0; obs A 0; mul; flow EUR; end", nil},
		// Ahead of the fork.
		{form(t, false, pays(0, op(api.XIf, op(api.XGt, square, xNum(0)), square, op(api.XNeg, square)))),
			"obs A 0; obs A 0; mul; keep 0; const 0; gt; zero 2; get 0; jump 2; get 0; neg; flow EUR; end", []int{1}},
		// In the second kid of an and, which is not always looked at.
		{form(t, false, pays(0, square, test(true, op(api.XAnd, positive, op(api.XGt, square, xNum(0)))))),
			"obs A 0; const 0; gt; zero 6; obs A 0; obs A 0; mul; const 0; gt; jump 1; bool 0; zero 4; obs A 0; obs A 0; mul; flow EUR; end", nil},
		// In its first kid, which is.
		{form(t, false, pays(0, square, test(true, op(api.XAnd, op(api.XGt, square, xNum(0)), positive)))),
			"obs A 0; obs A 0; mul; keep 0; const 0; gt; zero 4; obs A 0; const 0; gt; jump 1; bool 0; zero 2; get 0; flow EUR; end", []int{1}},
		// Behind a test that may fail, at the same action, but not at the next one.
		{form(t, false, pays(0, square, test(true, positive), times(square)), pays(0, square)),
			"obs A 0; const 0; gt; zero 7; obs A 0; obs A 0; mul; keep 0; get 0; mul; flow EUR; obs A 0; obs A 0; mul; keep 0; flow EUR; end", []int{3}},
		// The factor ahead of the test is kept, whether that fails or not.
		{form(t, false, pays(0, cube, times(square), test(true, positive)), pays(0, op(api.XAdd, square, cube))),
			"obs A 0; obs A 0; mul; keep 0; obs A 0; const 0; gt; zero 6; get 0; obs A 0; mul; mul; flow EUR; jump 1; drop; get 0; get 0; obs A 0; mul; add; flow EUR; end", []int{1}},
		// All of an if, which is got as a whole.
		{form(t, false, pays(0, op(api.XIf, positive, square, xB)), pays(0, op(api.XIf, positive, square, xB))),
			"obs A 0; const 0; gt; zero 4; obs A 0; obs A 0; mul; jump 1; obs B 0; keep 0; flow EUR; get 0; flow EUR; end", []int{5}},
	} {
		wantCode(t, c.n, true, c.want, c.kept...)
	}
}

// P1701, P1702: slots are numbered as the keeps come, inner nodes ahead of what is made of them.
func TestSlotsInOrder(t *testing.T) {
	sum := op(api.XAdd, op(api.XNeg, xB), square)
	wantCode(t, form(t, false, pays(0, sum), pays(0, square), pays(0, sum), pays(0, op(api.XNeg, xB))), true,
		"obs B 0; neg; keep 0; obs A 0; obs A 0; mul; keep 1; add; keep 2; flow EUR; get 1; flow EUR; get 2; flow EUR; get 0; flow EUR; end", 1, 3, 4)
}

// P1701, P1702: on each day all is worked out anew, the slots begin at 0, and what is looked back to lies further back.
func TestDaysAreByThemselves(t *testing.T) {
	yes := test(true, positive)
	n := form(t, false, pays(0, square), pays(1, square), pays(3, xB, yes), pays(3, square, yes), pays(3, square), pays(5, square, times(square)))
	p := hold(t, n)
	for segment, want := range []string{
		"obs A 0; obs A 0; mul; flow EUR; end",
		"obs A 1; obs A 1; mul; flow EUR; end",
		"obs A 3; const 0; gt; keep 0; zero 2; obs B 3; flow EUR; get 0; zero 4; obs A 3; obs A 3; mul; flow EUR; obs A 3; obs A 3; mul; flow EUR; end",
		"obs A 5; obs A 5; mul; keep 0; get 0; mul; flow EUR; end",
	} {
		if got := words(p, segment); got != want {
			t.Errorf("%s, want %s", got, want)
		}
	}
	for day, want := range [][]int{{}, {}, nil, {3}, nil, {1}} {
		list, e := lower.Shared(n, day)
		if want == nil && (e != api.ErrRange || list != nil) || want != nil && (e != api.OK || !slices.Equal(list, want)) {
			t.Errorf("Shared(%d): %v, %d, want %v", day, list, e, want)
		}
	}
	if p.Slots != 1 || p.Stack != 2 {
		t.Errorf("%+v", p)
	}
}

// P1701, P1704: what reads an accumulator is worked out at each place, its parts that read none are not; what has no kids is never kept.
func TestWhatIsNotShared(t *testing.T) {
	mixed := op(api.XAdd, xCell(1), square)
	wantCode(t, form(t, false, pays(0, mixed), sets(0, 1, mixed), pays(0, mixed)), true,
		"load 0; obs A 0; obs A 0; mul; keep 0; add; flow EUR; load 0; get 0; add; store 0; load 0; get 0; add; flow EUR; end", 2)
	choice := op(api.XIf, positive, xCell(0), xNum(1))
	wantCode(t, form(t, false, pays(0, choice), pays(0, choice)), true,
		"obs A 0; const 0; gt; keep 0; zero 2; load 0; jump 1; const 1; flow EUR; get 0; zero 2; load 0; jump 1; const 1; flow EUR; end", 2)
	wantBoth(t, form(t, false, pays(0, xA), pays(0, xA), pays(0, xNum(1)), pays(0, xNum(1)), pays(0, xB, test(true, op(api.XTrue)), test(true, op(api.XTrue)))),
		"obs A 0; flow EUR; obs A 0; flow EUR; const 1; flow EUR; const 1; flow EUR; bool 1; zero 4; bool 1; zero 2; obs B 0; flow EUR; end")
}

// P1701, P1702: what Valid does not take, whatever its error is; and days that no action has.
func TestRefused(t *testing.T) {
	good := form(t, false, pays(0, square), pays(2, square))
	hold(t, good)
	spoil := func(change func(n *api.Normal)) api.Normal {
		n := good
		n.Nodes, n.Actions = slices.Clone(n.Nodes), slices.Clone(n.Actions)
		change(&n)
		return n
	}
	for want, forms := range map[api.Errno][]api.Normal{
		api.ErrArg: {
			spoil(func(n *api.Normal) { n.Horizon = 1 }), spoil(func(n *api.Normal) { n.Horizon = -1 }), spoil(func(n *api.Normal) { n.Cells = -1 }),
			spoil(func(n *api.Normal) { n.Names = nil }), spoil(func(n *api.Normal) { n.Names = []string{"A", "A"} }), spoil(func(n *api.Normal) { n.Nodes[1].C = 0 }),
			spoil(func(n *api.Normal) { n.Nodes[1].A = 1 }), spoil(func(n *api.Normal) { n.Nodes[1].A = -1 }), spoil(func(n *api.Normal) { n.Nodes = n.Nodes[:1] }),
			spoil(func(n *api.Normal) { n.Nodes = nil }), spoil(func(n *api.Normal) { n.Actions = nil }), spoil(func(n *api.Normal) { n.Actions[0].Day = 3 }),
			spoil(func(n *api.Normal) { n.Actions[0].E = 2 }), spoil(func(n *api.Normal) { n.Actions[0].E = -1 }), spoil(func(n *api.Normal) { n.Actions[1].Cur = "eur" }),
			spoil(func(n *api.Normal) { n.Nodes[0].Day = 1 }), spoil(func(n *api.Normal) { n.Nodes[1].Op = api.XCall }), spoil(func(n *api.Normal) { n.Nodes[1].Op = 1 << 40 }),
		},
		api.ErrLong: {
			spoil(func(n *api.Normal) { n.Actions = make([]api.NAction, api.MaxActions+1) }), spoil(func(n *api.Normal) { n.Nodes = make([]api.Node, api.MaxNodes+1) }),
			tower(13), tower(16383),
		},
	} {
		for _, n := range forms {
			if e := dag.Valid(n); e != want {
				t.Errorf("Valid: %d, want %d: %+v", e, want, n)
			}
			holdRefused(t, n)
		}
	}
	for _, day := range []int{-1 << 63, -2, -1, 1, 3, 5, 6, 3660, 1<<63 - 1} {
		if list, e := lower.Shared(good, day); e != api.ErrRange || list != nil {
			t.Errorf("Shared(%d): %v, %d", day, list, e)
		}
	}
}

// tower: so many times the sum of the node ahead with itself.
func tower(levels int) api.Normal {
	n := api.Normal{Names: []string{"A"}, Nodes: []api.Node{{Op: api.XObs, A: -1, B: -1, C: -1}}}
	for i := range levels {
		n.Nodes = append(n.Nodes, api.Node{Op: api.XAdd, A: i, B: i, C: -1})
	}
	n.Actions = []api.NAction{{Kind: api.ActFlow, Cur: "EUR", E: levels}}
	return n
}
