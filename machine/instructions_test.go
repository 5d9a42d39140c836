package machine_test

import (
	"fmt"
	"math"
	"testing"

	"payoff/api"
	"payoff/machine"
)

// edges: numbers around which an instruction might go wrong.
var edges = []int{math.MinInt, math.MinInt + 1, -1 << 32, -3037000500, -8, -7, -2, -1, 0, 1, 2, 3, 7, 8, 3037000500, 1 << 32, 1 << 62, math.MaxInt - 1, math.MaxInt}

// over: a program of day 0 that puts so many observations on the stack, does an instruction, and lets what it puts flow: a truth as 1 or 2 (true).
func over(t *testing.T, takes int, instruction string, truth bool) api.Program {
	t.Helper()
	names, code := "", ""
	for n := range takes {
		names += fmt.Sprintf(" N%d", n)
		code += fmt.Sprintf("obs N%d 0; ", n)
	}
	tail, pool := "flow EUR; end", ""
	if truth {
		tail, pool = "zero 2; const 2; jump 1; const 1; flow EUR; end", "pool 1 2; "
	}
	return program(t, fmt.Sprintf("names%s; curs EUR; %shorizon 0; cells 0; slots 0; stack %d; day 0; %s%s; %s", names, pool, takes, code, instruction, tail))
}

// combinations gives every list of so many of the edges to a function.
func combinations(count int, list []int, told func([]int)) {
	if count == 0 {
		told(list)
		return
	}
	for _, v := range edges {
		combinations(count-1, append(list[:len(list):len(list)], v), told)
	}
}

// holdOver holds an instruction over all combinations of edges against the plain reading, and counts the faults.
func holdOver(t *testing.T, takes int, instruction string, truth bool) map[api.Fault]int {
	t.Helper()
	p := over(t, takes, instruction, truth)
	faults := map[api.Fault]int{}
	combinations(takes, nil, func(list []int) {
		m := plainNew(p)
		flows, fault, _ := m.day(seen(list...))
		wantRun(t, p, [][]api.Cell{seen(list...)}, api.Outcome{Flows: flows, Fault: fault}, api.OK)
		one := started(t, p)
		holdDay(t, plainNew(p), seen(list...), one)
		if steps := one.State().Steps; fault != api.NoFault && steps != takes+1 {
			t.Fatalf("%s of %v: %d steps up to the fault", instruction, list, steps)
		}
		faults[fault]++
	})
	return faults
}

// P1503: every instruction that works something out, over all edges.
func TestWhatIsWorkedOut(t *testing.T) {
	t.Parallel()
	const both, one, never = api.Overflow + api.DivZero, api.Overflow, api.NoFault
	for _, c := range []struct {
		takes       int
		instruction string
		may         api.Fault // which faults must have come
	}{
		{2, "add", one}, {2, "sub", one}, {2, "mul", one}, {2, "div", both}, {2, "mod", api.DivZero}, {2, "min", never}, {2, "max", never}, {1, "neg", one}, {1, "abs", one},
		{3, "ratio down", both}, {3, "ratio floor", both}, {3, "ratio ceil", both}, {3, "ratio half_up", both}, {3, "ratio half_even", both},
	} {
		faults := holdOver(t, c.takes, c.instruction, false)
		for _, fault := range []api.Fault{api.Overflow, api.DivZero} {
			if (faults[fault] > 0) != (c.may&fault != 0) {
				t.Errorf("%s: the fault %d has come %d times", c.instruction, fault, faults[fault])
			}
		}
	}
	for _, instruction := range []string{"lt", "le", "gt", "ge", "eq", "ne"} {
		if faults := holdOver(t, 2, instruction, true); faults[api.NoFault] != len(edges)*len(edges) {
			t.Errorf("%s: %v", instruction, faults)
		}
	}
}

// P1503: answers written down by hand, so that the plain reading is held against something.
func TestAnswersByHand(t *testing.T) {
	for _, c := range []struct {
		instruction string
		list        []int
		want        int
		fault       api.Fault
	}{
		{"add", []int{2, 3}, 5, 0}, {"add", []int{math.MaxInt, 1}, 0, api.Overflow}, {"sub", []int{2, 3}, -1, 0}, {"sub", []int{0, math.MinInt}, 0, api.Overflow},
		{"mul", []int{-4, 3}, -12, 0}, {"mul", []int{1 << 32, 1 << 31}, 0, api.Overflow}, {"div", []int{-7, 2}, -3, 0}, {"div", []int{2, 7}, 0, 0}, {"div", []int{5, 0}, 0, api.DivZero},
		{"div", []int{math.MinInt, -1}, 0, api.Overflow}, {"mod", []int{-7, 2}, -1, 0}, {"mod", []int{7, -2}, 1, 0}, {"mod", []int{math.MinInt, -1}, 0, 0}, {"mod", []int{5, 0}, 0, api.DivZero},
		{"min", []int{2, -3}, -3, 0}, {"min", []int{-3, 2}, -3, 0}, {"max", []int{2, -3}, 2, 0}, {"max", []int{-3, 2}, 2, 0}, {"neg", []int{7}, -7, 0}, {"neg", []int{math.MinInt}, 0, api.Overflow},
		{"abs", []int{-7}, 7, 0}, {"abs", []int{math.MinInt}, 0, api.Overflow}, {"ratio down", []int{7, 5, 2}, 17, 0}, {"ratio ceil", []int{7, 5, 2}, 18, 0}, {"ratio floor", []int{-7, 5, 2}, -18, 0},
		{"ratio half_up", []int{7, 5, 2}, 18, 0}, {"ratio half_even", []int{1, 5, 2}, 2, 0}, {"ratio down", []int{0, 1, 3}, 0, 0}, {"ratio down", []int{3, 2, 0}, 0, api.DivZero}, {"ratio down", []int{math.MaxInt, 2, 1}, 0, api.Overflow},
	} {
		var flows []api.Flow
		if c.fault == api.NoFault {
			flows = eur(0, c.want)
		}
		wantRun(t, over(t, len(c.list), c.instruction, false), [][]api.Cell{seen(c.list...)}, api.Outcome{Flows: flows, Fault: c.fault}, api.OK)
	}
	for instruction, want := range map[string][3]int{"lt": {2, 1, 1}, "le": {2, 2, 1}, "gt": {1, 1, 2}, "ge": {1, 2, 2}, "eq": {1, 2, 1}, "ne": {2, 1, 2}} {
		for n, list := range [][]int{{-3, 4}, {4, 4}, {4, -3}} {
			wantRun(t, over(t, 2, instruction, true), [][]api.Cell{seen(list...)}, api.Outcome{Flows: eur(0, want[n])}, api.OK)
		}
	}
}

// ran: the flows of one day of code, with the state behind it.
func ran(t *testing.T, text string, rows ...[]api.Cell) ([]api.Flow, api.State) {
	t.Helper()
	m := started(t, program(t, text))
	var all []api.Flow
	for !m.Over() {
		var row []api.Cell
		if today := m.State().Today; today < len(rows) {
			row = rows[today]
		}
		flows, _, _ := m.Day(row)
		all = append(all, flows...)
	}
	return all, m.State()
}

func wantRan(t *testing.T, text string, steps int, amounts ...int) {
	t.Helper()
	flows, s := ran(t, text)
	got := []int{}
	for _, f := range flows {
		got = append(got, f.Amount)
	}
	if fmt.Sprint(got) != fmt.Sprint(amounts) || s.Steps != steps || s.Fault != api.NoFault {
		t.Errorf("%s: %v, %+v, want %v, %d steps", text, got, s, amounts, steps)
	}
}

// P1503: what is passed over, what is kept, what is put.
func TestWaysThroughTheCode(t *testing.T) {
	const head = "curs EUR; pool 1 2 3; horizon 0; cells 0; slots 0; stack 1; day 0; "
	const all = "const 1; flow EUR; const 2; flow EUR; const 3; flow EUR; end"
	wantRan(t, head+all, 7, 1, 2, 3)
	wantRan(t, head+"jump 0; "+all, 8, 1, 2, 3)
	wantRan(t, head+"bool 0; zero 2; "+all, 7, 2, 3)
	wantRan(t, head+"bool 0; zero 4; "+all, 5, 3)
	wantRan(t, head+"bool 0; zero 6; "+all, 3)
	wantRan(t, head+"bool 0; zero 0; "+all, 9, 1, 2, 3)
	wantRan(t, head+"bool 1; zero 6; "+all, 9, 1, 2, 3)
	wantRan(t, head+"bool 0; not; zero 6; "+all, 10, 1, 2, 3)
	wantRan(t, head+"bool 1; not; zero 6; "+all, 4)
	wantRan(t, head+"bool 1; zero 3; const 1; flow EUR; jump 2; const 2; flow EUR; const 3; flow EUR; end", 8, 1, 3)
	wantRan(t, head+"bool 0; zero 3; const 1; flow EUR; jump 2; const 2; flow EUR; const 3; flow EUR; end", 7, 2, 3)

	wantRan(t, "curs EUR; pool 1 2; horizon 0; cells 0; slots 8; stack 2; day 0; const 1; keep 7; const 2; keep 0; drop; flow EUR; get 7; get 0; flow EUR; flow EUR; end", 11, 1, 2, 1)
	// A slot that is kept once more has the later value; keep leaves the value on the stack.
	wantRan(t, "curs EUR; pool 1 2; horizon 0; cells 0; slots 1; stack 1; day 0; const 1; keep 0; flow EUR; get 0; flow EUR; const 2; keep 0; drop; get 0; flow EUR; get 0; flow EUR; end", 13, 1, 1, 2, 2)
	wantRan(t, "curs EUR; pool 1 2 3; horizon 0; cells 0; slots 0; stack 3; day 0; const 1; const 2; const 3; drop; flow EUR; flow EUR; end", 7, 2, 1)
	wantRan(t, "curs EUR; pool 1 2; horizon 0; cells 3; slots 0; stack 2; day 0; const 1; store 2; const 2; store 0; load 0; load 2; flow EUR; flow EUR; load 1; flow EUR; end", 11, 1, 2, 0)
	// A truth that was kept.
	wantRan(t, "curs EUR; pool 1; horizon 0; cells 0; slots 1; stack 1; day 0; bool 1; keep 0; drop; get 0; zero 2; const 1; flow EUR; get 0; not; zero 2; const 1; flow EUR; end", 11, 1)
}

// P1503: each flow has its currency and its day; cells outlive the day, and what was looked at is that day's.
func TestDaysCellsAndCurrencies(t *testing.T) {
	const text = "names A B; curs EUR JPY USD; pool -4; horizon 5; cells 2; slots 0; stack 2; day 1; obs A 1; flow USD; obs B 0; store 1; const -4; flow EUR; end; day 4; load 1; flow JPY; obs A 3; obs B 4; sub; flow EUR; obs B 2; store 0; end"
	flows, s := ran(t, text, seen(10, 11), seen(20, 21), seen(30, 31), seen(40, 41), seen(50, 51))
	want := []api.Flow{{Day: 1, Cur: "USD", Amount: 10}, {Day: 1, Cur: "EUR", Amount: -4}, {Day: 4, Cur: "JPY", Amount: 21}, {Day: 4, Cur: "EUR", Amount: 9}}
	if fmt.Sprint(flows) != fmt.Sprint(want) {
		t.Errorf("%v", flows)
	}
	past := [][]api.Cell{seen(30, 31), seen(40, 41), seen(50, 51), {{}, {}}}
	if !sameState(s, api.State{Today: 6, Steps: 16, Cells: []int{31, 21}, Past: past}) {
		t.Errorf("%+v", s)
	}
}

// P1503: what was done ahead of a fault stays; what comes behind it is not done.
func TestFaultsLeaveWhatWasDone(t *testing.T) {
	const text = "names A; curs EUR; pool 0 7; horizon 3; cells 2; slots 0; stack 2; day 1; const 7; store 0; const 7; flow EUR; obs A 0; const 0; mod; store 0; const 7; store 1; const 7; flow EUR; end; day 2; const 7; flow EUR; end"
	flows, s := ran(t, text, nil, seen(3))
	if fmt.Sprint(flows) != fmt.Sprint(eur(1, 7)) || !sameState(s, api.State{Today: 2, Steps: 7, Cells: []int{7, 0}, Fault: api.DivZero, Day: 1}) {
		t.Errorf("%v, %+v", flows, s)
	}
	flows, s = ran(t, text, seen(3))
	if fmt.Sprint(flows) != fmt.Sprint(eur(1, 7)) || !sameState(s, api.State{Today: 2, Steps: 5, Cells: []int{7, 0}, Fault: api.NoObs, Day: 1}) {
		t.Errorf("%v, %+v", flows, s)
	}
	out, e := machine.Run(program(t, text), [][]api.Cell{nil, seen(3)})
	if fmt.Sprint(out) != fmt.Sprint(api.Outcome{Flows: eur(1, 7), Fault: api.DivZero, Day: 1}) || e != api.OK {
		t.Errorf("%v, %d", out, e)
	}
	// An observation that is missing is no fault where it is passed over.
	wantRan(t, "names A; curs EUR; pool 7; horizon 0; cells 0; slots 0; stack 1; day 0; bool 0; zero 2; obs A 0; flow EUR; const 7; flow EUR; end", 5, 7)
}
