package legs_test

import (
	"math"
	"slices"
	"testing"

	"payoff/api"
	"payoff/legs"
)

// deepest is how many parts may be nested in one another.
const deepest = 1 << 16

// nested puts an expression into an operator again and again, as that kid, with 1 for the others.
func nested(op, kid int, inner api.X, times int) api.X {
	for range times {
		outer := api.X{Op: op, Kids: make([]api.X, kidCounts()[op])}
		for i := range outer.Kids {
			outer.Kids[i] = xNum(1)
		}
		outer.Kids[kid] = inner
		inner = outer
	}
	return inner
}

// P1, P902, P904, P905: expressions nested as deep as may be, with a fault at their end or none.
func TestDeepExpressions(t *testing.T) {
	t.Parallel()
	for _, c := range []struct{ op, kid, want int }{{api.XNeg, 0, -9}, {api.XAdd, 0, 9 + deepest - 1}, {api.XMul, 1, 9}, {api.XAnd, 1, 1}, {api.XIf, 1, 9}, {api.XRatio, 1, 9}, {api.XMax, 0, 9}} {
		e := nested(c.op, c.kid, xObs(0, 0), deepest-1)
		wantDeep(t, e, observed(9), c.want, api.NoFault)
		wantDeep(t, e, nil, 0, api.NoObs)
		if n, want := legs.Nodes(e), (deepest-1)*kidCounts()[c.op]+1; n != want {
			t.Errorf("Nodes of %d: %d, want %d", c.op, n, want)
		}
		if reads := list(legs.Reads(e)); !slices.Equal(reads, [][2]int{{0, 0}}) {
			t.Errorf("Reads of %d: %v", c.op, reads)
		}
		out, err := legs.Play([]api.Action{pays(1, e, times(e)), sets(2, 0, e, test(false, e))}, 1, nil)
		if err != api.OK || out.Fault != api.NoObs || out.Day != 1 || len(out.Flows) > 0 {
			t.Errorf("Play of %d: %+v, %d", c.op, out, err)
		}
	}
}

func wantDeep(t *testing.T, e api.X, rows [][]api.Cell, want int, fault api.Fault) {
	t.Helper()
	if v, f := legs.Value(e, rows, nil); v != want || f != fault {
		t.Errorf("Value of a deep %d: %d, %d, want %d, %d", e.Op, v, f, want, fault)
	}
}

// wide: an expression of just that many nodes that reads the observable 7 at its end: 5 levels or more of rows that are not too long.
func wide(nodes int) api.X {
	e := xObs(7, 8)
	for left := nodes - 1; left > 0; left -= 3 {
		switch left {
		case 1:
			return op(api.XNeg, e)
		case 2:
			return op(api.XAdd, e, xNum(0))
		}
		e = op(api.XIf, op(api.XFalse), xNum(1), e)
		if left > 1<<19 && left%3 == 0 {
			// Half of all stands in one list, in an operator that has no such number of kids.
			e = op(api.XIf, op(api.XTrue), e, op(api.XAdd, make([]api.X, 1<<19-4)...))
			left -= 1<<19 - 4 + 3
		}
	}
	return e
}

// P902, P904, P905: expressions that are as great as they may be.
func TestGreatExpressions(t *testing.T) {
	t.Parallel()
	for _, nodes := range []int{1 << 20, 1<<20 - 1} {
		e := wide(nodes)
		if n := legs.Nodes(e); n != nodes || plainNodes(e) != nodes {
			t.Errorf("Nodes: %d, want %d", n, nodes)
		}
		if reads := list(legs.Reads(e)); !slices.Equal(reads, [][2]int{{7, 8}}) {
			t.Errorf("Reads: %v", reads)
		}
		if v, fault := legs.Value(e, nil, nil); v != 0 || fault != api.NoObs {
			t.Errorf("Value: %d, %d", v, fault)
		}
		out, err := legs.Play([]api.Action{pays(3, e)}, 0, nil)
		if err != api.OK || out.Fault != api.NoObs || out.Day != 3 {
			t.Errorf("Play: %+v, %d", out, err)
		}
	}
}

// doubled: an expression of more nodes than could be counted.
func doubled() api.X {
	e := xObs(0, 0)
	for range 100 {
		e = op(api.XAdd, e, e)
	}
	return e
}

// looped: an expression that stands in itself, as its first kid.
func looped(operator, kids int) api.X {
	list := make([]api.X, kids)
	list[0] = op(operator, list...)
	return list[0]
}

// What is free: expressions that are too great to be looked at: no call panics, and each ends.
func TestExpressionsThatAreTooGreat(t *testing.T) {
	t.Parallel()
	list := make([]api.X, 1<<20)
	for i := range list {
		list[i].Kids = list
	}
	for _, e := range []api.X{doubled(), looped(api.XNeg, 1), looped(api.XAdd, 2), op(api.XAdd, doubled(), looped(api.XIf, 3)), {Op: api.XNot, Kids: list}, wide(1<<20 + 1)} {
		for range legs.Reads(e) {
		}
		legs.Value(e, observed(1), []int{1})
		if n := legs.Nodes(e); n <= 1<<20 || n == math.MaxInt {
			t.Errorf("Nodes: %d", n)
		}
		if _, err := legs.Play([]api.Action{pays(0, e, test(true, e), times(e)), sets(0, 0, e), pays(1, e, test(false, e))}, 1, observed(1)); err != api.OK {
			t.Errorf("Play: %d", err)
		}
	}
}

// P901: a chain of ands is one level, however long it is; what is nothing in it is not gone through on each day of a loop.
func TestDeepChains(t *testing.T) {
	t.Parallel()
	zero, one := api.Con{Kind: api.CZero}, api.Con{Kind: api.CPay, Cur: "EUR", Exprs: []api.Expr{{Op: api.XNum, Num: 1}}}
	chain := func(first, other api.Con, times int) api.Con {
		for range times {
			first = api.Con{Kind: api.CAnd, Kids: []api.Con{first, other}}
		}
		return first
	}
	for _, c := range []struct {
		con  api.Con
		want int
	}{{chain(one, zero, deepest-3), 1}, {chain(zero, zero, deepest-3), 0}, {chain(chain(one, zero, deepest/2), one, 2047), 2048}} {
		d := deal(t, "contract zero;")
		d.Body = c.con
		if actions, cells, e := legs.Unroll(d); e != api.OK || len(actions) != c.want || cells != 0 {
			t.Errorf("%d actions, %d, %d, want %d", len(actions), cells, e, c.want)
		}
	}
	d := deal(t, "contract for t in 0..2047 zero;")
	d.Body.Kids[0] = api.Con{Kind: api.CAnd, Kids: []api.Con{one, {Kind: api.CGive, Kids: []api.Con{chain(zero, zero, deepest-9)}}}}
	if actions, _, e := legs.Unroll(d); e != api.OK || len(actions) != 2048 {
		t.Errorf("%d actions, %d", len(actions), e)
	}
}
