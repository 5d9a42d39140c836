package fan_test

import (
	"slices"
	"testing"

	"payoff/api"
	"payoff/fan"
)

// The examples of the chapter.

// exampleP pays, on day 1, so many times A of the day before, in EUR.
func exampleP(times int) api.Program {
	return api.Program{Names: []string{"A"}, Curs: []string{"EUR"}, Pool: []int{times}, Horizon: 1, Stack: 2, Days: []api.Segment{
		day(1, instr(api.OpObs, 0, 1), instr(api.OpConst, 0), instr(api.OpMul), instr(api.OpFlow, 0)),
	}}
}

// instr: an instruction, its operands behind its Op.
func instr(op int, operands ...int) api.Instr {
	i := api.Instr{Op: op}
	for n, place := range []*int{&i.A, &i.B} {
		if n < len(operands) {
			*place = operands[n]
		}
	}
	return i
}

// day: a day's code, closed by its end.
func day(d int, code ...api.Instr) api.Segment {
	return api.Segment{Day: d, Code: append(slices.Clone(code), instr(api.OpEnd))}
}

// of: a table of one name, each number a row.
func of(name string, numbers ...int) api.Table {
	t := api.Table{Names: []string{name}}
	for _, v := range numbers {
		t.Rows = append(t.Rows, []api.Cell{{Has: true, V: v}})
	}
	return t
}

// paid: the outcome of a run in which amounts of EUR flow on day 1.
func paid(amounts ...int) api.Outcome {
	var out api.Outcome
	for _, amount := range amounts {
		out.Flows = append(out.Flows, api.Flow{Day: 1, Cur: "EUR", Amount: amount})
	}
	return out
}

func unseen(d int) api.Outcome { return api.Outcome{Fault: api.NoObs, Day: d} }

func sameOutcome(a, b api.Outcome) bool {
	return slices.Equal(a.Flows, b.Flows) && a.Fault == b.Fault && a.Day == b.Day
}

// someWorkers: the least, the most, and what lies between.
var someWorkers = []int{1, 2, 3, 5, 8, 15, 16}

// wantEach: what Each answers, whatever the number of workers.
func wantEach(t *testing.T, p api.Program, scenarios []api.Table, want ...api.Outcome) {
	t.Helper()
	for _, workers := range someWorkers {
		if got, e := fan.Each(p, scenarios, workers); e != api.OK || !slices.EqualFunc(got, want, sameOutcome) {
			t.Errorf("Each by %d workers = %v, %d, want %v", workers, got, e, want)
		}
	}
}

// wantFirst: what First answers, whatever the number of workers.
func wantFirst(t *testing.T, p api.Program, scenarios []api.Table, want int) {
	t.Helper()
	for _, workers := range someWorkers {
		if got, e := fan.First(p, scenarios, workers); got != want || e != api.OK {
			t.Errorf("First by %d workers = %d, %d, want %d", workers, got, e, want)
		}
	}
}

// wantTotals: what Totals answers, whatever the number of workers.
func wantTotals(t *testing.T, p api.Program, scenarios []api.Table, first int, fault api.Fault, want ...api.Total) {
	t.Helper()
	for _, workers := range someWorkers {
		got, n, f, e := fan.Totals(p, scenarios, workers)
		if e != api.OK || n != first || f != fault || !slices.Equal(got, want) {
			t.Errorf("Totals by %d workers = %v, %d, %d, %d, want %v, %d, %d", workers, got, n, f, e, want, first, fault)
		}
	}
}

// wantRefused: all three calls answer an error, and zeroes beside it.
func wantRefused(t *testing.T, p api.Program, scenarios []api.Table, workers int, want api.Errno) {
	t.Helper()
	if got, e := fan.Each(p, scenarios, workers); e != want || len(got) != 0 {
		t.Errorf("Each of %d by %d workers = %v, %d, want the error %d", len(scenarios), workers, got, e, want)
	}
	if got, e := fan.First(p, scenarios, workers); e != want || got != 0 {
		t.Errorf("First of %d by %d workers = %d, %d, want the error %d", len(scenarios), workers, got, e, want)
	}
	if got, n, f, e := fan.Totals(p, scenarios, workers); e != want || len(got) != 0 || n != 0 || f != api.NoFault {
		t.Errorf("Totals of %d by %d workers = %v, %d, %d, %d, want the error %d", len(scenarios), workers, got, n, f, e, want)
	}
}

// P2001
func TestExample1(t *testing.T) {
	wantEach(t, exampleP(5), []api.Table{of("A", 7), of("A", 2)}, paid(35), paid(10))
}

// P2001, P2002, P2003
func TestExample2(t *testing.T) {
	scenarios := []api.Table{of("A"), of("A", 7)}
	wantEach(t, exampleP(5), scenarios, unseen(1), paid(35))
	wantFirst(t, exampleP(5), scenarios, 0)
	wantTotals(t, exampleP(5), scenarios, 0, api.NoObs)
}

// P2002, P2003
func TestExample3(t *testing.T) {
	scenarios := []api.Table{of("A", 7), of("A", 2)}
	wantFirst(t, exampleP(5), scenarios, -1)
	wantTotals(t, exampleP(5), scenarios, -1, api.NoFault, api.Total{Cur: "EUR", Amount: 45})
}

// P2003
func TestExample4(t *testing.T) {
	scenarios := []api.Table{of("A", 1<<62), of("A", 1<<62)}
	wantTotals(t, exampleP(1), scenarios, -1, api.Overflow)
	wantFirst(t, exampleP(1), scenarios, -1)
}

// P2001, P2004
func TestExample5(t *testing.T) {
	wantEach(t, exampleP(5), nil)
	wantRefused(t, exampleP(5), nil, 0, api.ErrArg)
	wantRefused(t, exampleP(5), nil, 17, api.ErrArg)
	wantRefused(t, exampleP(5), make([]api.Table, 1025), 1, api.ErrLong)
	p := exampleP(5)
	p.Stack = 1
	wantRefused(t, p, nil, 1, api.ErrProof)
}

// P2001
func TestExample6(t *testing.T) {
	two := api.Table{Names: []string{"B", "A"}, Rows: [][]api.Cell{{{Has: true, V: 9}, {Has: true, V: 3}}}}
	wantEach(t, exampleP(5), []api.Table{two, of("B", 7)}, paid(15), unseen(1))
}
