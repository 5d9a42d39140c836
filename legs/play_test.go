package legs_test

import (
	"math"
	"reflect"
	"slices"
	"testing"

	"payoff/api"
	"payoff/legs"
)

func wantPlay(t *testing.T, actions []api.Action, cells int, rows [][]api.Cell, want api.Errno) {
	t.Helper()
	out, e := legs.Play(actions, cells, rows)
	if e != want || e != api.OK && !reflect.DeepEqual(out, api.Outcome{}) {
		t.Errorf("Play of %d actions, %d accumulators: %+v, %d, want %d", len(actions), cells, out, e, want)
	}
}

// P903: what is refused, one thing at a time.
func TestPlayRefuses(t *testing.T) {
	for cells, want := range map[int]api.Errno{-1: api.ErrArg, 0: api.OK, 512: api.OK, 513: api.ErrArg, math.MaxInt: api.ErrArg, math.MinInt: api.ErrArg} {
		wantPlay(t, nil, cells, nil, want)
	}
	for kind, want := range map[int]api.Errno{0: api.ErrArg, api.ActFlow: api.OK, api.ActSet: api.OK, 3: api.ErrArg, -1: api.ErrArg} {
		wantPlay(t, []api.Action{{Kind: kind, Cur: "EUR"}}, 1, nil, want)
	}
	for cur, want := range map[string]api.Errno{"EUR": api.OK, "": api.ErrArg, "eur": api.ErrArg, "EURO": api.ErrArg, "EU": api.ErrArg, "EU1": api.ErrArg} {
		wantPlay(t, []api.Action{{Kind: api.ActFlow, Cur: cur}}, 0, nil, want)
	}
	for cell, want := range map[int]api.Errno{-1: api.ErrArg, 0: api.OK, 2: api.OK, 3: api.ErrArg, math.MaxInt: api.ErrArg} {
		wantPlay(t, []api.Action{sets(0, cell, xNum(1))}, 3, nil, want)
	}
	for kind, want := range map[int]api.Errno{0: api.ErrArg, 1: api.OK, 2: api.OK, 3: api.OK, 4: api.ErrArg, -1: api.ErrArg} {
		wantPlay(t, []api.Action{pays(0, xNum(1), give(), api.Step{Kind: kind})}, 0, nil, want)
		wantPlay(t, []api.Action{sets(0, 0, xNum(1), give(), api.Step{Kind: kind})}, 1, nil, want)
	}
	for day, want := range map[int]api.Errno{-1: api.ErrRange, 0: api.OK, 3660: api.OK, 3661: api.ErrRange, math.MaxInt: api.ErrRange, math.MinInt: api.ErrRange} {
		wantPlay(t, []api.Action{pays(day, xNum(1))}, 0, nil, want)
	}
	wantPlay(t, []api.Action{pays(3, xNum(1)), pays(3, xNum(1)), pays(2, xNum(1))}, 0, nil, api.ErrRange)
	wantPlay(t, slices.Repeat([]api.Action{pays(0, xNum(1))}, 2048), 0, nil, api.OK)
	wantPlay(t, slices.Repeat([]api.Action{pays(0, xNum(1))}, 2049), 0, nil, api.ErrLong)
}

// P903: the order of the errors, wherever they stand; and a field that an action does not use may be anything.
func TestPlayTellsTheFirstError(t *testing.T) {
	many := slices.Repeat([]api.Action{pays(5, xNum(1))}, 2049)
	late := append(slices.Clone(many), pays(4, xNum(1)))
	wantPlay(t, late, 0, nil, api.ErrRange)
	wantPlay(t, append(late, api.Action{Day: 5, Kind: 9}), 0, nil, api.ErrArg)
	wantPlay(t, late, 513, nil, api.ErrArg)
	wantPlay(t, append(late, pays(5, xNum(1), api.Step{})), 0, nil, api.ErrArg)
	wantPlay(t, []api.Action{{Kind: api.ActFlow, Cur: "EUR", Cell: -9}, {Kind: api.ActSet, Cur: "none", Cell: 0}}, 1, nil, api.OK)
	// A fault ahead of what is wrong does not hide it.
	wantPlay(t, []api.Action{pays(0, bad()), pays(-1, xNum(1))}, 0, nil, api.ErrRange)
}

func wantOutcome(t *testing.T, actions []api.Action, cells int, rows [][]api.Cell, fault api.Fault, day int, amounts ...int) {
	t.Helper()
	out, e := legs.Play(actions, cells, rows)
	var got []int
	for _, f := range out.Flows {
		got = append(got, f.Amount)
	}
	if e != api.OK || out.Fault != fault || out.Day != day || !slices.Equal(got, amounts) {
		t.Errorf("Play(%+v): %+v, %d, want %v, fault %d on day %d", actions, out, e, amounts, fault, day)
	}
}

// P903: accumulators are 0 at first, and are set from one action to the next.
func TestPlaySets(t *testing.T) {
	more := op(api.XAdd, xCell(1), xNum(5))
	wantOutcome(t, []api.Action{pays(0, xCell(1)), sets(0, 1, more), pays(0, xCell(1)), sets(2, 1, more), pays(2, xCell(1)), pays(2, xCell(0)), pays(2, xCell(2))}, 2, nil, api.NoFault, 0, 0, 5, 10, 0, 0)
	wantOutcome(t, []api.Action{sets(0, 0, xNum(7), test(false, xNum(1))), pays(0, xCell(0))}, 1, nil, api.NoFault, 0, 0)
	wantOutcome(t, []api.Action{sets(0, 0, xNum(7), give(), times(xNum(3))), pays(0, xCell(0))}, 1, nil, api.NoFault, 0, -21)
	wantOutcome(t, []api.Action{sets(0, 511, xNum(7)), pays(0, xCell(511))}, 512, nil, api.NoFault, 0, 7)
	again := []api.Action{sets(0, 0, op(api.XAdd, xCell(0), xNum(1))), pays(0, xCell(0))}
	wantOutcome(t, again, 1, nil, api.NoFault, 0, 1)
	wantOutcome(t, again, 1, nil, api.NoFault, 0, 1)
}

// P903: tests take every number but 0 as true; nothing behind one that fails is looked at.
func TestPlayTests(t *testing.T) {
	for _, v := range []int{1, -1, math.MinInt, 0} {
		var with, without []int
		if v != 0 {
			with = []int{8}
		} else {
			without = []int{8}
		}
		wantOutcome(t, []api.Action{pays(0, xNum(8), test(true, xNum(v)))}, 0, nil, api.NoFault, 0, with...)
		wantOutcome(t, []api.Action{pays(0, xNum(8), test(false, xNum(v)))}, 0, nil, api.NoFault, 0, without...)
	}
	wantOutcome(t, []api.Action{pays(0, bad(), test(true, xNum(0)), test(true, bad()), times(bad())), pays(1, xNum(2))}, 0, nil, api.NoFault, 0, 2)
	wantOutcome(t, []api.Action{pays(0, xNum(1), times(bad()), test(true, xNum(0)))}, 0, nil, api.DivZero, 0)
	wantOutcome(t, []api.Action{pays(0, xNum(1), test(true, xNum(0)), times(bad()))}, 0, nil, api.NoFault, 0)
}

// P903: factors are looked at from the first on, and ahead of the amount; they are multiplied from the last on.
func TestPlayTurnsAmounts(t *testing.T) {
	missing := xObs(0, 0)
	wantOutcome(t, []api.Action{pays(4, bad(), times(missing))}, 0, nil, api.NoObs, 4)
	wantOutcome(t, []api.Action{pays(4, missing, times(bad()))}, 0, nil, api.DivZero, 4)
	wantOutcome(t, []api.Action{pays(4, xNum(1), times(missing), times(bad()))}, 0, nil, api.NoObs, 4)
	wantOutcome(t, []api.Action{pays(4, xNum(1), test(true, missing), times(bad()))}, 0, nil, api.NoObs, 4)
	wantOutcome(t, []api.Action{pays(0, xNum(7), times(xNum(3)), give(), times(xNum(-2)))}, 0, nil, api.NoFault, 0, 42)
	half := xNum(math.MinInt / 2)
	wantOutcome(t, []api.Action{pays(0, half, give(), times(xNum(2)))}, 0, nil, api.Overflow, 0)
	wantOutcome(t, []api.Action{pays(0, half, times(xNum(2)), give())}, 0, nil, api.Overflow, 0)
	wantOutcome(t, []api.Action{pays(0, half, times(xNum(-2)), give(), give())}, 0, nil, api.Overflow, 0)
	wantOutcome(t, []api.Action{pays(0, half, times(xNum(2)), give(), give())}, 0, nil, api.NoFault, 0, math.MinInt)
	wantOutcome(t, []api.Action{pays(0, half, times(xNum(0)), times(xNum(3)))}, 0, nil, api.Overflow, 0)
	wantOutcome(t, []api.Action{pays(0, half, times(xNum(3)), times(xNum(0)))}, 0, nil, api.NoFault, 0, 0)
	// The E of a StepGive is not looked at.
	wantOutcome(t, []api.Action{pays(0, xNum(1), api.Step{Kind: api.StepGive, Want: true, E: bad()})}, 0, nil, api.NoFault, 0, -1)
}

// P903: a fault ends it; what came ahead of it stays.
func TestPlayEndsAtAFault(t *testing.T) {
	actions := []api.Action{pays(1, xNum(1)), sets(3, 0, xObs(0, 3)), pays(3, xNum(2)), pays(5, xNum(3))}
	wantOutcome(t, actions, 1, observed(0, 0, 0), api.NoObs, 3, 1)
	wantOutcome(t, actions, 1, observed(0, 0, 0, 0), api.NoFault, 0, 1, 2, 3)
	out, _ := legs.Play([]api.Action{{Day: 2, Kind: api.ActFlow, Cur: "USD", E: xNum(-4)}, {Day: 2, Kind: api.ActFlow, Cur: "EUR"}}, 0, nil)
	if !slices.Equal(out.Flows, []api.Flow{{Day: 2, Cur: "USD", Amount: -4}, {Day: 2, Cur: "EUR"}}) {
		t.Errorf("%+v", out)
	}
}
