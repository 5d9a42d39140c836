package flow_test

import (
	"math"
	"math/big"
	"math/rand"
	"slices"
	"strings"
	"testing"

	"payoff/api"
	"payoff/flow"
)

const (
	most  = math.MaxInt64
	least = math.MinInt64
)

func on(day int, cur string, amount int) api.Flow {
	return api.Flow{Day: day, Cur: cur, Amount: amount}
}

func total(cur string, amount int) api.Total {
	return api.Total{Cur: cur, Amount: amount}
}

func expectNet(t *testing.T, flows, want []api.Flow, fault api.Fault) {
	t.Helper()
	got, f := flow.Net(flows)
	if f != fault || !slices.Equal(got, want) {
		t.Errorf("Net(%v) = %v, %d, want %v, %d", flows, got, f, want, fault)
	}
}

func expectTotals(t *testing.T, flows []api.Flow, want []api.Total, fault api.Fault) {
	t.Helper()
	got, f := flow.Totals(flows)
	if f != fault || !slices.Equal(got, want) {
		t.Errorf("Totals(%v) = %v, %d, want %v, %d", flows, got, f, want, fault)
	}
}

func expectUntil(t *testing.T, flows []api.Flow, day int, want []api.Flow) {
	t.Helper()
	if got := flow.Until(flows, day); !slices.Equal(got, want) {
		t.Errorf("Until(%v, %d) = %v, want %v", flows, day, got, want)
	}
}

// roomy tells a copy of a list with spare room behind its end, and a check that neither has been changed.
func roomy(t *testing.T, list []api.Flow) ([]api.Flow, func()) {
	t.Helper()
	mark := api.Flow{Day: 77, Cur: "spare", Amount: 78}
	whole := append(slices.Clone(list), mark, mark, mark)
	before := slices.Clone(whole)
	return whole[:len(list)], func() {
		t.Helper()
		if !slices.Equal(whole, before) {
			t.Errorf("what was handed in has become %v, was %v", whole, before)
		}
	}
}

// spoil writes over a list that was answered, with its spare room.
func spoil[T any](list []T) {
	clear(list[:cap(list)])
}

// someFlows tells n flows of few days and texts, so that they meet often.
func someFlows(r *rand.Rand, n int, amounts []int) []api.Flow {
	curs := []string{"EUR", "USD", "CHF", "EU", "", "eur", "\xff", "EURO"}
	list := make([]api.Flow, n)
	for i := range list {
		list[i] = api.Flow{Day: r.Intn(5) - 2, Cur: curs[r.Intn(len(curs))], Amount: amounts[r.Intn(len(amounts))]}
	}
	return list
}

var smallAmounts = []int{-3, -2, -1, 0, 1, 2, 3}

// P301

func TestValid(t *testing.T) {
	for _, c := range []struct {
		f    api.Flow
		want api.Errno
	}{
		{on(0, "EUR", 0), api.OK},
		{on(0, "AAA", least), api.OK},
		{on(1<<30, "ZZZ", most), api.OK},
		{on(1<<30+1, "EUR", 0), api.ErrRange},
		{on(most, "EUR", 0), api.ErrRange},
		{on(-1, "EUR", 0), api.ErrRange},
		{on(least, "EUR", 0), api.ErrRange},
		{on(0, "", 0), api.ErrArg},
		{on(0, "E", 0), api.ErrArg},
		{on(0, "EU", 0), api.ErrArg},
		{on(0, "EURO", 0), api.ErrArg},
		{on(0, " EUR", 0), api.ErrArg},
		{on(0, "ÄU", 0), api.ErrArg},
		{on(0, "eur", 0), api.ErrArg},
		{on(-1, "eur", 0), api.ErrArg},
		{on(1<<30+1, "EU", 0), api.ErrArg},
		{api.Flow{}, api.ErrArg},
	} {
		if got := flow.Valid(c.f); got != c.want {
			t.Errorf("Valid(%v) = %d, want %d", c.f, got, c.want)
		}
	}
}

func TestValidAtEachByte(t *testing.T) {
	for at := range 3 {
		for b := range 256 {
			cur := []byte("EUR")
			cur[at] = byte(b)
			want := api.ErrArg
			if strings.Contains("ABCDEFGHIJKLMNOPQRSTUVWXYZ", string(rune(b))) {
				want = api.OK
			}
			if got := flow.Valid(api.Flow{Cur: string(cur)}); got != want {
				t.Errorf("Valid of %q = %d, want %d", cur, got, want)
			}
		}
	}
}

// P302

func TestCompareIsTheOrderOfAList(t *testing.T) {
	// Each flow stands behind all that come ahead of it.
	rising := []api.Flow{
		on(least, "ZZZ", most),
		on(-1, "ZZZ", 5),
		on(0, "", 9),
		on(0, "A", 8),
		on(0, "AA", 7),
		on(0, "AAA", least),
		on(0, "AAA", -1),
		on(0, "AAA", 0),
		on(0, "AAA", most),
		on(0, "AAAA", 0),
		on(0, "AAB", -5),
		on(0, "AZ", -6),
		on(0, "B", -7),
		on(0, "a", -8),
		on(0, "\x80", -9),
		on(0, "\xff", -10),
		on(1, "", least),
		on(most, "", least),
	}
	for i, a := range rising {
		for j, b := range rising {
			want := 0
			if i < j {
				want = -1
			}
			if i > j {
				want = 1
			}
			if got := flow.Compare(a, b); got != want {
				t.Errorf("Compare(%v, %v) = %d, want %d", a, b, got, want)
			}
		}
	}
}

// P303

func TestNet(t *testing.T) {
	expectNet(t, nil, nil, api.NoFault)
	expectNet(t, []api.Flow{}, nil, api.NoFault)
	expectNet(t, []api.Flow{{}}, []api.Flow{{}}, api.NoFault)
	expectNet(t, []api.Flow{on(5, "EUR", 0)}, []api.Flow{on(5, "EUR", 0)}, api.NoFault)
	// Any flows are taken, right or not.
	expectNet(t, []api.Flow{on(-4, "eur", 1), on(1<<40, "", 2), on(-4, "eur", 3)}, []api.Flow{on(-4, "eur", 4), on(1<<40, "", 2)}, api.NoFault)
	expectNet(t, []api.Flow{on(1, "EUR", most), on(1, "USD", most), on(2, "EUR", most)}, []api.Flow{on(1, "EUR", most), on(1, "USD", most), on(2, "EUR", most)}, api.NoFault)
	expectNet(t, []api.Flow{on(1, "B", 1), on(1, "AB", 2), on(1, "A", 3)}, []api.Flow{on(1, "A", 3), on(1, "AB", 2), on(1, "B", 1)}, api.NoFault)
}

func TestNetOverflow(t *testing.T) {
	expectNet(t, []api.Flow{on(1, "EUR", least), on(1, "EUR", -1)}, nil, api.Overflow)
	expectNet(t, []api.Flow{on(1, "EUR", least), on(1, "EUR", -1), on(1, "EUR", 1)}, nil, api.Overflow)
	expectNet(t, []api.Flow{on(1, "EUR", least), on(1, "EUR", 1), on(1, "EUR", -1)}, []api.Flow{on(1, "EUR", least)}, api.NoFault)
	expectNet(t, []api.Flow{on(1, "EUR", least), on(1, "EUR", most), on(1, "EUR", 1)}, []api.Flow{on(1, "EUR", 0)}, api.NoFault)
	// What flows in between in another currency, or on another day, is none of its sum.
	expectNet(t, []api.Flow{on(1, "EUR", most), on(1, "USD", 1), on(2, "EUR", 1), on(1, "EUR", -1)}, []api.Flow{on(1, "EUR", most-1), on(1, "USD", 1), on(2, "EUR", 1)}, api.NoFault)
	expectNet(t, []api.Flow{on(1, "EUR", most), on(1, "USD", -1), on(2, "EUR", -1), on(1, "EUR", 1)}, nil, api.Overflow)
	// One sum is enough, whichever it is.
	for i := range 9 {
		list := []api.Flow{on(0, "AAA", 1), on(1, "AAA", 1), on(2, "AAA", 1), on(3, "AAA", 1), on(4, "AAA", 1), on(5, "AAA", 1), on(6, "AAA", 1), on(7, "AAA", 1), on(8, "AAA", 1)}
		expectNet(t, append(list, on(i, "AAA", most)), nil, api.Overflow)
	}
}

// added tells the sum of amounts, or false as soon as a sum on the way is outside 64 bits.
func added(amounts []int) (int, bool) {
	sum := new(big.Int)
	for _, a := range amounts {
		sum.Add(sum, big.NewInt(int64(a)))
		if !sum.IsInt64() {
			return 0, false
		}
	}
	return int(sum.Int64()), true
}

// amountsOf tells the amounts of the flows that are asked for, as they stand in the list.
func amountsOf(flows []api.Flow, wanted func(api.Flow) bool) []int {
	var amounts []int
	for _, f := range flows {
		if wanted(f) {
			amounts = append(amounts, f.Amount)
		}
	}
	return amounts
}

// plainNet reads P303 word by word.
func plainNet(flows []api.Flow) ([]api.Flow, api.Fault) {
	var list []api.Flow
	for _, f := range flows {
		sum, ok := added(amountsOf(flows, func(g api.Flow) bool { return g.Day == f.Day && g.Cur == f.Cur }))
		if !ok {
			return nil, api.Overflow
		}
		one := api.Flow{Day: f.Day, Cur: f.Cur, Amount: sum}
		if !slices.Contains(list, one) {
			list = append(list, one)
		}
	}
	slices.SortFunc(list, flow.Compare)
	return list, api.NoFault
}

// plainTotals reads P304 word by word.
func plainTotals(flows []api.Flow) ([]api.Total, api.Fault) {
	var list []api.Total
	for _, f := range flows {
		sum, ok := added(amountsOf(flows, func(g api.Flow) bool { return g.Cur == f.Cur }))
		if !ok {
			return nil, api.Overflow
		}
		one := api.Total{Cur: f.Cur, Amount: sum}
		if !slices.Contains(list, one) {
			list = append(list, one)
		}
	}
	slices.SortFunc(list, func(a, b api.Total) int { return strings.Compare(a.Cur, b.Cur) })
	return list, api.NoFault
}

func TestSumsAgainstPlainReading(t *testing.T) {
	r := rand.New(rand.NewSource(3))
	great := []int{most, least, most - 1, least + 1, 1, -1, 0, most / 2, least / 2}
	faults := [2]int{}
	for range 3000 {
		amounts := smallAmounts
		if r.Intn(2) == 0 {
			amounts = great
		}
		list := someFlows(r, r.Intn(30), amounts)
		want, fault := plainNet(list)
		expectNet(t, list, want, fault)
		totals, totalsFault := plainTotals(list)
		expectTotals(t, list, totals, totalsFault)
		faults[fault]++
	}
	if faults[0] < 300 || faults[1] < 300 {
		t.Errorf("the lists say too little: %v", faults)
	}
}

func TestSumsOfManyFlows(t *testing.T) {
	const n = 200000
	list := make([]api.Flow, n)
	for i := range list {
		list[i] = api.Flow{Day: n - i, Cur: "EUR", Amount: 1}
	}
	net, fault := flow.Net(list)
	if fault != api.NoFault || len(net) != n || !slices.IsSortedFunc(net, flow.Compare) {
		t.Errorf("Net of many days: %d flows, %d", len(net), fault)
	}
	expectTotals(t, list, []api.Total{total("EUR", n)}, api.NoFault)
}

// P304

func TestTotals(t *testing.T) {
	expectTotals(t, nil, nil, api.NoFault)
	expectTotals(t, []api.Flow{}, nil, api.NoFault)
	expectTotals(t, []api.Flow{{}}, []api.Total{{}}, api.NoFault)
	expectTotals(t, []api.Flow{on(9, "b", 1), on(-9, "a", 2), on(0, "", 3), on(1, "b", 4)}, []api.Total{total("", 3), total("a", 2), total("b", 5)}, api.NoFault)
	expectTotals(t, []api.Flow{on(1, "AB", 1), on(1, "A", 2), on(1, "AA", 3)}, []api.Total{total("A", 2), total("AA", 3), total("AB", 1)}, api.NoFault)
}

func TestTotalsOverflow(t *testing.T) {
	expectTotals(t, []api.Flow{on(1, "EUR", most), on(2, "EUR", 1), on(3, "EUR", -1)}, nil, api.Overflow)
	expectTotals(t, []api.Flow{on(1, "EUR", most), on(3, "EUR", -1), on(2, "EUR", 1)}, []api.Total{total("EUR", most)}, api.NoFault)
	expectTotals(t, []api.Flow{on(1, "EUR", least), on(2, "EUR", -1)}, nil, api.Overflow)
	expectTotals(t, []api.Flow{on(1, "EUR", most), on(1, "USD", most)}, []api.Total{total("EUR", most), total("USD", most)}, api.NoFault)
	// The list's order counts, not the days'.
	expectTotals(t, []api.Flow{on(3, "EUR", most), on(2, "EUR", 1), on(1, "EUR", -1)}, nil, api.Overflow)
	expectTotals(t, []api.Flow{on(1, "AAA", 1), on(1, "EUR", most), on(1, "ZZZ", 1), on(1, "EUR", 1)}, nil, api.Overflow)
}

// P306

func TestUntil(t *testing.T) {
	list := []api.Flow{on(5, "EUR", 1), on(most, "x", 2), on(-3, "USD", 3), on(5, "CHF", 4), on(least, "", 5), on(0, "EUR", 6), on(6, "EUR", 7)}
	expectUntil(t, list, most, list)
	expectUntil(t, list, most-1, []api.Flow{on(5, "EUR", 1), on(-3, "USD", 3), on(5, "CHF", 4), on(least, "", 5), on(0, "EUR", 6), on(6, "EUR", 7)})
	expectUntil(t, list, 5, []api.Flow{on(5, "EUR", 1), on(-3, "USD", 3), on(5, "CHF", 4), on(least, "", 5), on(0, "EUR", 6)})
	expectUntil(t, list, 4, []api.Flow{on(-3, "USD", 3), on(least, "", 5), on(0, "EUR", 6)})
	expectUntil(t, list, -1, []api.Flow{on(-3, "USD", 3), on(least, "", 5)})
	expectUntil(t, list, least, []api.Flow{on(least, "", 5)})
	expectUntil(t, list[:1], 4, nil)
	expectUntil(t, nil, most, nil)
}

// P310

func TestNetInAnotherOrder(t *testing.T) {
	r := rand.New(rand.NewSource(10))
	for range 1000 {
		list := someFlows(r, r.Intn(40), smallAmounts)
		want, _ := flow.Net(list)
		totals, _ := flow.Totals(list)
		expectTotals(t, want, totals, api.NoFault)
		r.Shuffle(len(list), func(i, j int) { list[i], list[j] = list[j], list[i] })
		expectNet(t, list, want, api.NoFault)
		expectTotals(t, list, totals, api.NoFault)
	}
}

// Rules that hold everywhere

func TestSumsAndUntilAnswerNewMemory(t *testing.T) {
	list, unchanged := roomy(t, example2())
	net, _ := flow.Net(list)
	spoil(net)
	unchanged()
	totals, _ := flow.Totals(list)
	spoil(totals)
	unchanged()
	for _, day := range []int{0, 1, 3} {
		spoil(flow.Until(list, day))
		unchanged()
	}
}
