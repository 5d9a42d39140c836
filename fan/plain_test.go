package fan_test

import (
	"math/big"
	"slices"
	"testing"

	"payoff/api"
	"payoff/asm"
	"payoff/fan"
	"payoff/machine"
	"payoff/table"
	"payoff/verify"
)

// The plain reading of the chapter, promise by promise, to hold the calls against: one run behind the other.

// plainRun: what a program comes to over a scenario.
func plainRun(p api.Program, scenario api.Table) api.Outcome {
	rows := make([][]api.Cell, len(scenario.Rows))
	for d, row := range scenario.Rows {
		for _, name := range p.Names {
			cell := api.Cell{}
			if at := slices.Index(scenario.Names, name); at >= 0 {
				cell = row[at]
			}
			rows[d] = append(rows[d], cell)
		}
	}
	out, _ := machine.Run(p, rows)
	return out
}

// plainRefused: what is refused, with what.
func plainRefused(p api.Program, scenarios []api.Table, workers int) api.Errno {
	if workers < 1 || workers > 16 {
		return api.ErrArg
	}
	if len(scenarios) > 1024 {
		return api.ErrLong
	}
	if _, _, _, e := verify.Verify(p); e != api.OK {
		return e
	}
	for _, scenario := range scenarios {
		if e := table.Valid(scenario); e != api.OK {
			return e
		}
	}
	return api.OK
}

// plainEach: P2001.
func plainEach(p api.Program, scenarios []api.Table) []api.Outcome {
	var outs []api.Outcome
	for _, scenario := range scenarios {
		outs = append(outs, plainRun(p, scenario))
	}
	return outs
}

// plainFirst: P2002.
func plainFirst(outs []api.Outcome) int {
	return slices.IndexFunc(outs, func(out api.Outcome) bool { return out.Fault != api.NoFault })
}

// plainTotals: P2003.
func plainTotals(outs []api.Outcome) ([]api.Total, int, api.Fault) {
	if first := plainFirst(outs); first >= 0 {
		return nil, first, outs[first].Fault
	}
	sums := map[string]*big.Int{}
	var curs []string
	for _, out := range outs {
		for _, f := range out.Flows {
			if sums[f.Cur] == nil {
				sums[f.Cur] = new(big.Int)
				curs = append(curs, f.Cur)
			}
			sum := sums[f.Cur]
			if sum.Add(sum, big.NewInt(int64(f.Amount))); !sum.IsInt64() {
				return nil, -1, api.Overflow
			}
		}
	}
	slices.Sort(curs)
	var totals []api.Total
	for _, cur := range curs {
		totals = append(totals, api.Total{Cur: cur, Amount: int(sums[cur].Int64())})
	}
	return totals, -1, api.NoFault
}

// answers: what the three calls tell.
type answers struct {
	outs   []api.Outcome
	first  int
	totals []api.Total
	number int
	fault  api.Fault
	errors [3]api.Errno
}

func ask(p api.Program, scenarios []api.Table, workers int) answers {
	var a answers
	a.outs, a.errors[0] = fan.Each(p, scenarios, workers)
	a.first, a.errors[1] = fan.First(p, scenarios, workers)
	a.totals, a.number, a.fault, a.errors[2] = fan.Totals(p, scenarios, workers)
	return a
}

func plainly(p api.Program, scenarios []api.Table, workers int) answers {
	if e := plainRefused(p, scenarios, workers); e != api.OK {
		return answers{errors: [3]api.Errno{e, e, e}}
	}
	a := answers{outs: plainEach(p, scenarios)}
	a.first = plainFirst(a.outs)
	a.totals, a.number, a.fault = plainTotals(a.outs)
	return a
}

func (a answers) same(b answers) bool {
	return slices.EqualFunc(a.outs, b.outs, sameOutcome) && slices.Equal(a.totals, b.totals) &&
		a.first == b.first && a.number == b.number && a.fault == b.fault && a.errors == b.errors
}

// hold holds the calls against the plain reading, and tells what they answered.
func hold(t *testing.T, p api.Program, scenarios []api.Table, workers int) answers {
	t.Helper()
	got, want := ask(p, scenarios, workers), plainly(p, scenarios, workers)
	if !got.same(want) {
		text, _ := asm.Print(p)
		t.Fatalf("%d scenarios by %d workers: %+v, want %+v:\n%s", len(scenarios), workers, got, want, text[:min(len(text), 800)])
	}
	return got
}
