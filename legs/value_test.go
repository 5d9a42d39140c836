package legs_test

import (
	"iter"
	"math"
	"slices"
	"testing"

	"payoff/api"
	"payoff/legs"
)

// bad: a division by zero, for where nothing may be looked at.
func bad() api.X { return op(api.XDiv, xNum(1), xNum(0)) }

// P902: each operator.
func TestOperators(t *testing.T) {
	for _, c := range []struct{ op, a, b, want int }{
		{api.XAdd, 7, -2, 5}, {api.XSub, 7, -2, 9}, {api.XMul, 7, -2, -14}, {api.XDiv, 7, -2, -3}, {api.XMod, 7, -2, 1}, {api.XMod, -7, 2, -1},
		{api.XMin, 7, -2, -2}, {api.XMin, -2, 7, -2}, {api.XMax, 7, -2, 7}, {api.XMax, -2, 7, 7},
		{api.XLt, 1, 2, 1}, {api.XLt, 2, 2, 0}, {api.XLt, 3, 2, 0}, {api.XLe, 1, 2, 1}, {api.XLe, 2, 2, 1}, {api.XLe, 3, 2, 0},
		{api.XGt, 1, 2, 0}, {api.XGt, 2, 2, 0}, {api.XGt, 3, 2, 1}, {api.XGe, 1, 2, 0}, {api.XGe, 2, 2, 1}, {api.XGe, 3, 2, 1},
		{api.XEq, 1, 2, 0}, {api.XEq, 2, 2, 1}, {api.XNe, 1, 2, 1}, {api.XNe, 2, 2, 0},
		{api.XAnd, 0, 0, 0}, {api.XAnd, 0, 5, 0}, {api.XAnd, 5, 0, 0}, {api.XAnd, -5, 5, 1},
		{api.XOr, 0, 0, 0}, {api.XOr, 0, 5, 1}, {api.XOr, 5, 0, 1}, {api.XOr, -5, 5, 1},
	} {
		wantValue(t, op(c.op, xNum(c.a), xNum(c.b)), nil, nil, c.want, api.NoFault)
	}
	for _, c := range []struct{ op, a, want int }{
		{api.XNeg, 7, -7}, {api.XNeg, -7, 7}, {api.XAbs, 7, 7}, {api.XAbs, -7, 7}, {api.XNot, 0, 1}, {api.XNot, 1, 0}, {api.XNot, -5, 0},
	} {
		wantValue(t, op(c.op, xNum(c.a)), nil, nil, c.want, api.NoFault)
	}
	wantValue(t, xNum(math.MinInt), nil, nil, math.MinInt, api.NoFault)
	wantValue(t, op(api.XTrue), nil, nil, 1, api.NoFault)
	wantValue(t, op(api.XFalse), nil, nil, 0, api.NoFault)
	wantValue(t, op(api.XIf, xNum(-3), xNum(8), bad()), nil, nil, 8, api.NoFault)
	wantValue(t, op(api.XIf, xNum(0), bad(), xNum(9)), nil, nil, 9, api.NoFault)
}

// P902: a ratio's Num is its rounding, whatever stands there.
func TestRatios(t *testing.T) {
	for mode, want := range map[int]int{api.Down: -2, api.Floor: -3, api.Ceil: -2, api.HalfUp: -3, api.HalfEven: -2, 5: -2, -1: -2} {
		ratio := op(api.XRatio, xNum(-5), xNum(3), xNum(6))
		ratio.Num = mode
		wantValue(t, ratio, nil, nil, want, api.NoFault)
	}
	wantValue(t, op(api.XRatio, xNum(1), xNum(1), xNum(0)), nil, nil, 0, api.DivZero)
	wantValue(t, op(api.XRatio, xNum(math.MaxInt), xNum(4), xNum(2)), nil, nil, 0, api.Overflow)
	wantValue(t, op(api.XRatio, xNum(math.MaxInt), xNum(4), xNum(4)), nil, nil, math.MaxInt, api.NoFault)
}

// P902: the faults of the operators, and which of several is told.
func TestFaults(t *testing.T) {
	most, least, one := xNum(math.MaxInt), xNum(math.MinInt), xNum(1)
	for _, e := range []api.X{
		op(api.XAdd, most, one), op(api.XSub, least, one), op(api.XMul, most, xNum(2)), op(api.XNeg, least), op(api.XAbs, least), op(api.XDiv, least, xNum(-1)),
	} {
		wantValue(t, e, nil, nil, 0, api.Overflow)
	}
	wantValue(t, op(api.XMod, least, xNum(-1)), nil, nil, 0, api.NoFault)
	wantValue(t, op(api.XMod, one, xNum(0)), nil, nil, 0, api.DivZero)
	over, missing := op(api.XAdd, most, one), xObs(0, 0)
	for _, two := range []int{api.XAdd, api.XDiv, api.XMin, api.XMax, api.XLt, api.XEq} {
		wantValue(t, op(two, over, missing), nil, nil, 0, api.Overflow)
		wantValue(t, op(two, missing, over), nil, nil, 0, api.NoObs)
		wantValue(t, op(two, xNum(0), bad()), nil, nil, 0, api.DivZero)
	}
	wantValue(t, op(api.XDiv, missing, xNum(0)), nil, nil, 0, api.NoObs)
	wantValue(t, op(api.XRatio, over, bad(), missing), nil, nil, 0, api.Overflow)
	wantValue(t, op(api.XRatio, one, bad(), missing), nil, nil, 0, api.DivZero)
	wantValue(t, op(api.XRatio, one, one, missing), nil, nil, 0, api.NoObs)
	wantValue(t, op(api.XAnd, bad(), xNum(0)), nil, nil, 0, api.DivZero)
	wantValue(t, op(api.XAnd, one, bad()), nil, nil, 0, api.DivZero)
	wantValue(t, op(api.XAnd, xNum(0), bad()), nil, nil, 0, api.NoFault)
	wantValue(t, op(api.XOr, bad(), one), nil, nil, 0, api.DivZero)
	wantValue(t, op(api.XOr, xNum(0), bad()), nil, nil, 0, api.DivZero)
	wantValue(t, op(api.XOr, xNum(-1), bad()), nil, nil, 1, api.NoFault)
	wantValue(t, op(api.XIf, missing, bad(), bad()), nil, nil, 0, api.NoObs)
	wantValue(t, op(api.XIf, one, missing, bad()), nil, nil, 0, api.NoObs)
	wantValue(t, op(api.XIf, xNum(0), bad(), missing), nil, nil, 0, api.NoObs)
	wantValue(t, op(api.XNot, missing), nil, nil, 0, api.NoObs)
}

// P902: which observations are missing.
func TestObservations(t *testing.T) {
	rows := [][]api.Cell{{{Has: true, V: 5}, {Has: false, V: 6}}, {}, nil, {{Has: true, V: -8}}}
	wantValue(t, xObs(0, 0), rows, nil, 5, api.NoFault)
	wantValue(t, xObs(0, 3), rows, nil, -8, api.NoFault)
	for _, e := range []api.X{
		xObs(1, 0), xObs(2, 0), xObs(-1, 0), xObs(0, 1), xObs(0, 2), xObs(1, 3), xObs(0, 4), xObs(0, -1),
		xObs(math.MaxInt, 0), xObs(math.MinInt, 0), xObs(0, math.MaxInt), xObs(0, math.MinInt),
	} {
		wantValue(t, e, rows, []int{1, 2, 3}, 0, api.NoObs)
	}
	wantValue(t, xObs(0, 0), nil, nil, 0, api.NoObs)
}

// P902: accumulators that are there, and that are not.
func TestCells(t *testing.T) {
	cells := []int{4, -7}
	for number, want := range map[int]int{0: 4, 1: -7, 2: 0, -1: 0, math.MaxInt: 0, math.MinInt: 0} {
		wantValue(t, xCell(number), nil, cells, want, api.NoFault)
	}
	wantValue(t, xCell(0), observed(1), nil, 0, api.NoFault)
}

// P902, P905: every operator with every number of kids, each of which would be seen if it were looked at.
func TestShapes(t *testing.T) {
	counts := kidCounts()
	for o := -1; o <= api.XCell+2; o++ {
		for kids := range 5 {
			e := api.X{Op: o, Num: 1, Day: 0}
			for i := range kids {
				e.Kids = append(e.Kids, xObs(2+i, 9))
			}
			count, known := counts[o]
			shaped := known && count == kids
			fault := api.NoFault
			var reads [][2]int
			if shaped && kids > 0 || shaped && o == api.XObs {
				fault = api.NoObs
			}
			if shaped && o == api.XObs {
				reads = [][2]int{{1, 0}}
			}
			for i := range kids {
				if shaped {
					reads = append(reads, [2]int{2 + i, 9})
				}
			}
			want := 0
			if shaped && (o == api.XNum || o == api.XTrue) {
				want = 1
			}
			wantValue(t, e, nil, nil, want, fault)
			if got := list(legs.Reads(e)); !slices.Equal(got, reads) {
				t.Errorf("Reads(%+v): %v, want %v", e, got, reads)
			}
			if got := legs.Nodes(e); got != 1+kids {
				t.Errorf("Nodes(%+v): %d", e, got)
			}
		}
	}
}

// list goes over reads to their end.
func list(reads iter.Seq2[int, int]) [][2]int {
	var all [][2]int
	for observable, day := range reads {
		all = append(all, [2]int{observable, day})
	}
	return all
}

// reading: an expression that reads 0 to 3, on the days 10 to 13, and, where it is not well shaped, 9.
func reading() api.X {
	return op(api.XIf, op(api.XLt, xObs(0, 10), xObs(1, 11)), op(api.XAdd, xObs(9, 9)), op(api.XMul, xObs(2, 12), op(api.XNeg, xObs(3, 13))))
}

// P905: the order; again, from the first; left early at each place.
func TestReadsAgainAndInPart(t *testing.T) {
	want := [][2]int{{0, 10}, {1, 11}, {2, 12}, {3, 13}}
	reads := legs.Reads(reading())
	for stop := range 5 {
		var got [][2]int
		for observable, day := range reads {
			if len(got) == stop {
				break
			}
			got = append(got, [2]int{observable, day})
		}
		if !slices.Equal(got, want[:stop]) {
			t.Errorf("left behind %d: %v", stop, got)
		}
		if got := list(reads); !slices.Equal(got, want) {
			t.Errorf("gone over again: %v", got)
		}
	}
	next, end := iter.Pull2(reads)
	defer end()
	for i, w := range want {
		if observable, day, ok := next(); !ok || w != [2]int{observable, day} || !slices.Equal(list(reads), want) {
			t.Errorf("%d: %d, %d, %v beside another loop", i, observable, day, ok)
		}
	}
	if _, _, ok := next(); ok {
		t.Errorf("there is one behind the last")
	}
}

// P905: it goes by the expression as it was.
func TestReadsOfAnExpressionThatChanges(t *testing.T) {
	e := reading()
	reads := legs.Reads(e)
	want := list(reads)
	e.Kids[0].Kids[0].Day = 77
	e.Kids[2].Kids[1] = xNum(5)
	if got := list(reads); !slices.Equal(got, want) {
		t.Errorf("%v, want %v", got, want)
	}
	for observable := range reads {
		e.Kids[0].Kids[1].Num = 50 + observable
		e.Kids[2].Op = api.XNot
	}
	if got := list(reads); !slices.Equal(got, want) {
		t.Errorf("%v, want %v", got, want)
	}
}
