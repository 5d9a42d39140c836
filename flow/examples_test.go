package flow_test

import (
	"testing"

	"payoff/api"
	"payoff/flow"
)

// The eight examples of doc/03-flow.md, as they stand there.

func example2() []api.Flow {
	return []api.Flow{on(3, "EUR", 5), on(1, "USD", 2), on(3, "EUR", -5), on(1, "CHF", 1), on(1, "USD", 4)}
}

func TestExample1(t *testing.T) {
	for _, c := range []struct {
		a, b api.Flow
		want int
	}{
		{on(1, "EUR", 5), on(1, "USD", 1), -1},
		{on(2, "EUR", 5), on(1, "USD", 1), 1},
		{on(1, "EUR", 5), on(1, "EUR", -5), 1},
		{on(1, "EU", 0), on(1, "EUR", -9), -1},
	} {
		if got := flow.Compare(c.a, c.b); got != c.want {
			t.Errorf("Compare(%v, %v) = %d, want %d", c.a, c.b, got, c.want)
		}
	}
}

func TestExample2(t *testing.T) {
	expectNet(t, example2(), []api.Flow{on(1, "CHF", 1), on(1, "USD", 6), on(3, "EUR", 0)}, api.NoFault)
}

func TestExample3(t *testing.T) {
	expectNet(t, []api.Flow{on(1, "EUR", most), on(1, "EUR", 1), on(1, "EUR", -1)}, nil, api.Overflow)
	expectNet(t, []api.Flow{on(1, "EUR", most), on(1, "EUR", -1), on(1, "EUR", 1)}, []api.Flow{on(1, "EUR", most)}, api.NoFault)
}

func TestExample4(t *testing.T) {
	expectTotals(t, example2(), []api.Total{total("CHF", 1), total("EUR", 0), total("USD", 6)}, api.NoFault)
}

func TestExample5(t *testing.T) {
	a := []api.Flow{on(1, "EUR", 1), on(3, "EUR", 2)}
	b := []api.Flow{on(1, "EUR", 9), on(2, "EUR", 8)}
	expectMerge(t, [][]api.Flow{a, b, {}}, []api.Flow{on(1, "EUR", 1), on(1, "EUR", 9), on(2, "EUR", 8), on(3, "EUR", 2)}, api.OK)
	expectMerge(t, [][]api.Flow{{on(3, "EUR", 2), on(1, "EUR", 1)}}, nil, api.ErrArg)
	expectMerge(t, nil, nil, api.OK)
}

func TestExample6(t *testing.T) {
	expectUntil(t, []api.Flow{on(3, "EUR", 2), on(1, "EUR", 1)}, 2, []api.Flow{on(1, "EUR", 1)})
}

func TestExample7(t *testing.T) {
	expectPrint(t, []api.Flow{on(0, "EUR", -5), on(12, "USD", 0)}, "0 EUR -5\n12 USD 0\n", api.OK)
	expectPrint(t, []api.Flow{on(1, "eur", 1)}, "", api.ErrArg)
	expectPrint(t, []api.Flow{on(-1, "EUR", 1)}, "", api.ErrRange)
	expectPrint(t, []api.Flow{on(-1, "eur", 1)}, "", api.ErrArg)
	expectPrint(t, nil, "", api.OK)
}

func TestExample8(t *testing.T) {
	expectRefused(t, "0 EUR -5", 8)
	expectRefused(t, "0 EUR 05\n", 7)
	expectRefused(t, "00 EUR 5\n", 1)
	expectRefused(t, "1073741825 EUR 1\n", 9)
	expectRefused(t, "1 EUr 1\n", 4)
	expectRefused(t, "1 EUR -0\n", 7)
	expectRefused(t, "1 EUR 9223372036854775808\n", 24)
	expectRefused(t, "\n", 0)
}
