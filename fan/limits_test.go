package fan_test

import (
	"math"
	"slices"
	"strings"
	"testing"

	"payoff/api"
)

// badPrograms: programs that verify refuses, each with its error.
func badPrograms() map[api.Errno]api.Program {
	with := func(change func(p *api.Program)) api.Program {
		p := exampleP(5)
		change(&p)
		return p
	}
	return map[api.Errno]api.Program{
		api.ErrCanon: with(func(p *api.Program) { p.Names = []string{"a"} }),
		api.ErrJump:  with(func(p *api.Program) { p.Days[0].Code[2] = instr(api.OpJump, 9) }),
		api.ErrStack: with(func(p *api.Program) { p.Days[0].Code[2] = instr(api.OpNeg) }),
		api.ErrSort:  with(func(p *api.Program) { p.Days[0].Code[2] = instr(api.OpLt) }),
		api.ErrBack:  with(func(p *api.Program) { p.Days[0].Code[0] = instr(api.OpObs, 0, 2) }),
		api.ErrProof: with(func(p *api.Program) { p.Stack = 3 }),
	}
}

// badTables: tables that are not valid, each with its error.
func badTables() map[api.Errno]api.Table {
	return map[api.Errno]api.Table{
		api.ErrSize: {Names: []string{"A"}, Rows: [][]api.Cell{{}}},
		api.ErrLong: {Rows: make([][]api.Cell, 4097)},
		api.ErrName: {Names: []string{"a"}},
		api.ErrCell: {Names: []string{"A"}, Rows: [][]api.Cell{{{V: 1}}}},
	}
}

// P2004: each reason alone.
func TestRefusedForOneReason(t *testing.T) {
	p, good := exampleP(5), []api.Table{of("A", 7), of("A", 2)}
	for _, workers := range []int{0, -1, -16, 17, 18, 1 << 32, 1<<32 + 1, math.MinInt, math.MaxInt} {
		wantRefused(t, p, good, workers, api.ErrArg)
		wantRefused(t, p, nil, workers, api.ErrArg)
	}
	for _, count := range []int{1025, 1026, 2048, 1 << 20} {
		wantRefused(t, p, make([]api.Table, count), 1, api.ErrLong)
		wantRefused(t, p, make([]api.Table, count), 16, api.ErrLong)
	}
	for e, bad := range badPrograms() {
		for _, workers := range someWorkers {
			wantRefused(t, bad, good, workers, e)
			wantRefused(t, bad, nil, workers, e)
		}
	}
	for e, bad := range badTables() {
		for at := range 4 {
			for _, workers := range someWorkers {
				wantRefused(t, p, slices.Insert([]api.Table{of("A", 7), of("A"), of("B")}, at, bad), workers, e)
			}
		}
	}
}

// P2004: of several reasons the first.
func TestRefusedForTheFirstReason(t *testing.T) {
	p, many := exampleP(5), make([]api.Table, 1025)
	for e, bad := range badPrograms() {
		wantRefused(t, bad, many, 0, api.ErrArg)
		wantRefused(t, bad, many, 1, api.ErrLong)
		for _, wrong := range badTables() {
			wantRefused(t, bad, []api.Table{wrong}, 17, api.ErrArg)
			wantRefused(t, bad, slices.Repeat([]api.Table{wrong}, 1025), 16, api.ErrLong)
			wantRefused(t, bad, []api.Table{wrong}, 2, e)
		}
	}
	for e, one := range badTables() {
		for _, two := range badTables() {
			for _, workers := range someWorkers {
				// Neither a scenario that faults nor another that is wrong is told ahead of the first one that is wrong.
				wantRefused(t, p, []api.Table{of("A"), one, two}, workers, e)
				wantRefused(t, p, slices.Concat(make([]api.Table, 500), []api.Table{one}, make([]api.Table, 400), []api.Table{two}), workers, e)
			}
		}
	}
}

// P2001: a table that has another's names in another order, too many rows, or holes that are not looked at.
func TestWhatDoesNotCount(t *testing.T) {
	cell := func(v int) api.Cell { return api.Cell{Has: true, V: v} }
	wantEach(t, exampleP(5), []api.Table{
		of("A", 3, 4, 5, 6),
		{Names: []string{"Z", "A", "B"}, Rows: [][]api.Cell{{{}, cell(3), {}}, {{}, {}, {}}}},
		{Names: []string{"AA"}, Rows: [][]api.Cell{{cell(3)}}},
		{Names: []string{"A"}, Rows: [][]api.Cell{{{}}, {cell(3)}}},
		{},
	}, paid(15), paid(15), unseen(1), unseen(1), unseen(1))
}

// P2001, P2003: flows that came ahead of a fault stay, but are not added up.
func TestFlowsAheadOfAFault(t *testing.T) {
	p := api.Program{Names: []string{"A"}, Curs: []string{"EUR"}, Pool: []int{60}, Horizon: 1, Stack: 2, Days: []api.Segment{
		day(1, instr(api.OpConst, 0), instr(api.OpFlow, 0), instr(api.OpConst, 0), instr(api.OpObs, 0, 1), instr(api.OpDiv), instr(api.OpFlow, 0)),
	}}
	divided := paid(60)
	divided.Fault, divided.Day = api.DivZero, 1
	missing := paid(60)
	missing.Fault, missing.Day = api.NoObs, 1
	scenarios := []api.Table{of("A", 4), of("A", 0), of("A"), of("A", 60)}
	wantEach(t, p, scenarios, paid(60, 15), divided, missing, paid(60, 1))
	wantFirst(t, p, scenarios, 1)
	wantTotals(t, p, scenarios, 1, api.DivZero)
	wantFirst(t, p, scenarios[2:], 0)
	wantTotals(t, p, scenarios[2:], 0, api.NoObs)
	wantTotals(t, p, []api.Table{scenarios[0], scenarios[3]}, -1, api.NoFault, api.Total{Cur: "EUR", Amount: 136})
}

// P2003: amounts are added up in the scenarios' order: what is beyond 64 bits on the way is Overflow, unless a run faults.
func TestTotalsOnTheWay(t *testing.T) {
	p := exampleP(1)
	const most, least = math.MaxInt, math.MinInt
	eur := func(n int) api.Total { return api.Total{Cur: "EUR", Amount: n} }
	list := func(numbers ...int) []api.Table {
		var out []api.Table
		for _, n := range numbers {
			out = append(out, of("A", n))
		}
		return out
	}
	wantTotals(t, p, list(most, -1, 1), -1, api.NoFault, eur(most))
	wantTotals(t, p, list(most, 1, -1), -1, api.Overflow)
	wantTotals(t, p, list(1, -1, most), -1, api.NoFault, eur(most))
	wantTotals(t, p, list(least, most, 1), -1, api.NoFault, eur(0))
	wantTotals(t, p, list(least, -1, most), -1, api.Overflow)
	wantTotals(t, p, list(0), -1, api.NoFault, eur(0))
	wantTotals(t, p, nil, -1, api.NoFault)
	wantTotals(t, p, append(list(most, 1, -1), of("A")), 3, api.NoObs)
	// A run's own overflow is told with its number.
	wantTotals(t, exampleP(2), list(1, most), 1, api.Overflow)
	wantTotals(t, exampleP(2), list(most/2, 1, most), 2, api.Overflow)
}

// P2003: a currency's sum has its place by its name, and one that overflows takes the others with it.
func TestTotalsOfCurrencies(t *testing.T) {
	p := api.Program{Names: []string{"A", "B"}, Curs: []string{"AUD", "EUR", "USD"}, Stack: 1, Days: []api.Segment{
		day(0, instr(api.OpObs, 1, 0), instr(api.OpFlow, 2), instr(api.OpObs, 0, 0), instr(api.OpFlow, 1), instr(api.OpObs, 0, 0), instr(api.OpNeg), instr(api.OpFlow, 0)),
	}}
	two := func(a, b int) api.Table {
		return api.Table{Names: []string{"B", "A"}, Rows: [][]api.Cell{{{Has: true, V: b}, {Has: true, V: a}}}}
	}
	wantTotals(t, p, []api.Table{two(1, 2), two(3, -9)}, -1, api.NoFault, api.Total{Cur: "AUD", Amount: -4}, api.Total{Cur: "EUR", Amount: 4}, api.Total{Cur: "USD", Amount: -7})
	wantTotals(t, p, []api.Table{two(1, math.MaxInt), two(3, 1)}, -1, api.Overflow)
	// The same overflow, but in a run: USD has flowed there.
	wantTotals(t, p, []api.Table{two(1, 2), two(math.MinInt, 1)}, 1, api.Overflow)
}

// P2001: as much as there may be of all: scenarios, rows, names, days.
func TestTheMost(t *testing.T) {
	t.Parallel()
	p := api.Program{Curs: []string{"EUR"}, Horizon: 3660, Stack: 2}
	for n := range 64 {
		p.Names = append(p.Names, strings.Repeat("N", 29)+string([]byte{'A' + byte(n/26), 'A' + byte(n%26)}))
	}
	for d := range 3661 {
		p.Days = append(p.Days, day(d, instr(api.OpObs, d%64, 0), instr(api.OpObs, 63, d), instr(api.OpAdd), instr(api.OpFlow, 0)))
	}
	full := api.Table{Names: slices.Clone(p.Names)}
	slices.Reverse(full.Names)
	for d := range 4096 {
		var row []api.Cell
		for n := range 64 {
			row = append(row, api.Cell{Has: true, V: d + n})
		}
		full.Rows = append(full.Rows, row)
	}
	short := api.Table{Names: full.Names, Rows: full.Rows[:3660]}
	if got := hold(t, p, []api.Table{full, full, short, full}, 16); got.first != 2 || got.outs[2].Day != 3660 || len(got.outs[2].Flows) != 3660 {
		t.Errorf("First = %d", got.first)
	}
	hold(t, p, slices.Repeat([]api.Table{full}, 16), 16)
	// Scenarios that are one another's memory.
	if got := hold(t, exampleP(5), slices.Repeat([]api.Table{of("A", 7)}, 1024), 16); got.totals[0].Amount != 1024*35 {
		t.Errorf("Totals = %v", got.totals)
	}
	hold(t, api.Program{}, make([]api.Table, 1024), 3)
	hold(t, api.Program{Horizon: 3660}, []api.Table{full, {}}, 2)
}
