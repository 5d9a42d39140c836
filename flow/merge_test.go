package flow_test

import (
	"math/rand"
	"slices"
	"testing"

	"payoff/api"
	"payoff/flow"
)

func expectMerge(t *testing.T, lists [][]api.Flow, want []api.Flow, e api.Errno) {
	t.Helper()
	got, err := flow.Merge(lists...)
	if err != e || !slices.Equal(got, want) {
		t.Errorf("Merge(%v) = %v, %d, want %v, %d", lists, got, err, want, e)
	}
}

func byDay(a, b api.Flow) int {
	switch {
	case a.Day < b.Day:
		return -1
	case a.Day > b.Day:
		return 1
	}
	return 0
}

// P305

func TestMerge(t *testing.T) {
	a := []api.Flow{on(1, "B", 1), on(1, "A", 2), on(4, "B", 3)}
	b := []api.Flow{on(1, "A", 4), on(4, "A", 5), on(9, "A", 6)}
	c := []api.Flow{on(0, "C", 7), on(1, "C", 8), on(9, "C", 9)}
	expectMerge(t, [][]api.Flow{a, b, c}, []api.Flow{c[0], a[0], a[1], b[0], c[1], a[2], b[1], b[2], c[2]}, api.OK)
	expectMerge(t, [][]api.Flow{c, b, a}, []api.Flow{c[0], c[1], b[0], a[0], a[1], b[1], a[2], c[2], b[2]}, api.OK)
	expectMerge(t, [][]api.Flow{b, a}, []api.Flow{b[0], a[0], a[1], b[1], a[2], b[2]}, api.OK)
	// One list twice, and any days and texts.
	expectMerge(t, [][]api.Flow{a, a}, []api.Flow{a[0], a[1], a[0], a[1], a[2], a[2]}, api.OK)
	expectMerge(t, [][]api.Flow{{on(most, "", 1)}, {on(least, "\xff", 2), on(most, "x", 3)}}, []api.Flow{on(least, "\xff", 2), on(most, "", 1), on(most, "x", 3)}, api.OK)
}

func TestMergeOfEmptyLists(t *testing.T) {
	a := []api.Flow{on(1, "B", 1), on(1, "A", 2)}
	expectMerge(t, [][]api.Flow{nil}, nil, api.OK)
	expectMerge(t, [][]api.Flow{{}, nil, {}, nil, nil}, nil, api.OK)
	expectMerge(t, [][]api.Flow{nil, a}, a, api.OK)
	expectMerge(t, [][]api.Flow{a, nil}, a, api.OK)
	expectMerge(t, [][]api.Flow{nil, nil, a, nil, nil}, a, api.OK)
}

func TestMergeOutOfOrder(t *testing.T) {
	good := []api.Flow{on(1, "EUR", 1), on(2, "EUR", 1)}
	for _, bad := range [][]api.Flow{
		{on(2, "EUR", 1), on(1, "EUR", 1)},
		{on(0, "EUR", 1), on(2, "EUR", 1), on(1, "EUR", 1)},
		{on(1, "EUR", 1), on(0, "EUR", 1), on(2, "EUR", 1)},
		{on(most, "EUR", 1), on(least, "EUR", 1)},
		{on(0, "EUR", 1), on(-1, "EUR", 1)},
	} {
		expectMerge(t, [][]api.Flow{bad}, nil, api.ErrArg)
		expectMerge(t, [][]api.Flow{bad, good}, nil, api.ErrArg)
		expectMerge(t, [][]api.Flow{good, bad}, nil, api.ErrArg)
		expectMerge(t, [][]api.Flow{good, nil, bad}, nil, api.ErrArg)
		expectMerge(t, [][]api.Flow{good, nil, good, bad, good}, nil, api.ErrArg)
	}
}

// orderedLists tells a few lists that are ordered by day; each flow's amount is its own.
func orderedLists(r *rand.Rand) [][]api.Flow {
	lists := make([][]api.Flow, r.Intn(13))
	amount := 0
	for i := range lists {
		lists[i] = someFlows(r, r.Intn(6), []int{0})
		slices.SortStableFunc(lists[i], byDay)
		for j := range lists[i] {
			amount++
			lists[i][j].Amount = amount
		}
	}
	return lists
}

func TestMergeAgainstPlainReading(t *testing.T) {
	r := rand.New(rand.NewSource(5))
	for range 4000 {
		lists := orderedLists(r)
		want := slices.Concat(lists...)
		slices.SortStableFunc(want, byDay)
		expectMerge(t, lists, want, api.OK)
	}
}

func TestMergeOfManyLists(t *testing.T) {
	const n = 200000
	lists := make([][]api.Flow, n)
	for i := range lists {
		lists[i] = []api.Flow{on(n-i, "EUR", i)}
	}
	got, e := flow.Merge(lists...)
	if e != api.OK || len(got) != n || !slices.IsSortedFunc(got, byDay) {
		t.Errorf("Merge of many lists: %d flows, %d", len(got), e)
	}
}

// P310

func TestMergeOfOneList(t *testing.T) {
	r := rand.New(rand.NewSource(6))
	for n := range 60 {
		list := someFlows(r, n, smallAmounts)
		slices.SortStableFunc(list, byDay)
		expectMerge(t, [][]api.Flow{list}, list, api.OK)
	}
}

// Rules that hold everywhere

func TestMergeAnswersNewMemory(t *testing.T) {
	a, aUnchanged := roomy(t, []api.Flow{on(1, "EUR", 1), on(3, "EUR", 2)})
	b, bUnchanged := roomy(t, []api.Flow{on(1, "EUR", 9), on(2, "EUR", 8)})
	for _, lists := range [][][]api.Flow{{a}, {a, nil}, {nil, a}, {a, b}, {b, a}, {a, b, a}, {nil, nil, a}, {a, b, nil, nil, b}} {
		before := slices.Clone(lists)
		got, _ := flow.Merge(lists...)
		spoil(got)
		aUnchanged()
		bUnchanged()
		for i := range lists {
			if !slices.Equal(lists[i], before[i]) {
				t.Errorf("the list of lists has changed at %d", i)
			}
		}
	}
}
