package fan_test

import (
	"math/rand"
	"slices"
	"testing"

	"payoff/api"
	"payoff/build"
	"payoff/fan"
	"payoff/flow"
	"payoff/image"
	"payoff/sample"
	"payoff/tree"
)

// What follows of the calls: how their answers hang together.

// eachOf: what Each answers to what cannot be refused.
func eachOf(t *testing.T, p api.Program, scenarios []api.Table, workers int) []api.Outcome {
	t.Helper()
	outs, e := fan.Each(p, scenarios, workers)
	if e != api.OK || len(outs) != len(scenarios) {
		t.Fatalf("Each of %d: %d outcomes, %d", len(scenarios), len(outs), e)
	}
	return outs
}

// P2006: another order of the scenarios is the same order of outcomes.
func TestAnotherOrder(t *testing.T) {
	t.Parallel()
	chance := rand.New(rand.NewSource(2011))
	for range 500 {
		p := someProgram(chance)
		scenarios := someTables(chance, p, chance.Intn(30))
		outs := eachOf(t, p, scenarios, 1+chance.Intn(16))
		var otherwise []api.Table
		var want []api.Outcome
		for _, n := range chance.Perm(len(scenarios)) {
			otherwise, want = append(otherwise, scenarios[n]), append(want, outs[n])
		}
		if got := eachOf(t, p, otherwise, 1+chance.Intn(16)); !slices.EqualFunc(got, want, sameOutcome) {
			t.Fatalf("%v, want %v", got, want)
		}
	}
}

// P2006: two lists laid together are the two answers laid together, and the first fault of the first list that has one is the first.
func TestLaidTogether(t *testing.T) {
	t.Parallel()
	chance := rand.New(rand.NewSource(2012))
	for range 500 {
		p := someProgram(chance)
		one, two := someTables(chance, p, chance.Intn(20)), someTables(chance, p, chance.Intn(20))
		both := slices.Concat(one, two)
		want := append(eachOf(t, p, one, 1+chance.Intn(16)), eachOf(t, p, two, 1+chance.Intn(16))...)
		if got := eachOf(t, p, both, 1+chance.Intn(16)); !slices.EqualFunc(got, want, sameOutcome) {
			t.Fatalf("%v, want %v", got, want)
		}
		first, _ := fan.First(p, one, 1+chance.Intn(16))
		if first < 0 {
			if first, _ = fan.First(p, two, 1+chance.Intn(16)); first >= 0 {
				first += len(one)
			}
		}
		if got, e := fan.First(p, both, 1+chance.Intn(16)); got != first || e != api.OK {
			t.Fatalf("First = %d, %d, want %d", got, e, first)
		}
	}
}

// P2006: a scenario's outcome hangs on it and on the program alone: among others it is as by itself, wherever it stands.
func TestAloneAndAmongOthers(t *testing.T) {
	t.Parallel()
	chance := rand.New(rand.NewSource(2013))
	for range 500 {
		p := someProgram(chance)
		scenario := someTable(chance, p)
		alone := eachOf(t, p, []api.Table{scenario}, 1+chance.Intn(16))[0]
		others := someTables(chance, p, chance.Intn(30))
		at := chance.Intn(len(others) + 1)
		if got := eachOf(t, p, slices.Insert(others, at, scenario), 1+chance.Intn(16))[at]; !sameOutcome(got, alone) {
			t.Fatalf("%v, want %v", got, alone)
		}
	}
}

// P2002, P2003: First and Totals are what Each's answer says of them.
func TestOfEach(t *testing.T) {
	t.Parallel()
	chance := rand.New(rand.NewSource(2014))
	for range 1000 {
		p := someProgram(chance)
		scenarios := someTables(chance, p, chance.Intn(10))
		outs := eachOf(t, p, scenarios, 1+chance.Intn(16))
		first := -1
		var flows []api.Flow
		for n, out := range outs {
			if out.Fault != api.NoFault && first < 0 {
				first = n
			}
			flows = append(flows, out.Flows...)
		}
		totals, fault := flow.Totals(flows)
		if first >= 0 {
			totals, fault = nil, outs[first].Fault
		}
		workers := 1 + chance.Intn(16)
		if got, e := fan.First(p, scenarios, workers); got != first || e != api.OK {
			t.Fatalf("First = %d, %d, want %d", got, e, first)
		}
		if got, n, f, e := fan.Totals(p, scenarios, workers); !slices.Equal(got, totals) || n != first || f != fault || e != api.OK {
			t.Fatalf("Totals = %v, %d, %d, %d, want %v, %d, %d", got, n, f, e, totals, first, fault)
		}
	}
}

// P10: deals by chance, whose images are run over each table by themselves.
func TestDeals(t *testing.T) {
	t.Parallel()
	chance := rand.New(rand.NewSource(2015))
	told := tally[api.Fault]{}
	for range 500 {
		d := sample.Deal(chance.Intn)
		text, e := tree.Print(d)
		if e != api.OK {
			t.Fatalf("Print: %d", e)
		}
		b, report := build.Compile(text, chance.Intn(2) == 0, chance.Intn(2) == 0)
		p, _, e := image.Decode(b)
		if report.Err != api.OK || e != api.OK {
			t.Fatalf("Compile: %d, Decode: %d", report.Err, e)
		}
		var scenarios []api.Table
		for range chance.Intn(12) {
			scenarios = append(scenarios, sample.Table(chance.Intn, d.Names, chance.Intn(p.Horizon+3)))
		}
		for n, got := range eachOf(t, p, scenarios, 1+chance.Intn(16)) {
			want, e := build.Run(b, scenarios[n])
			if e != api.OK || !sameOutcome(got, want) {
				t.Fatalf("%v, want %v, %d:\n%s", got, want, e, text)
			}
			told[got.Fault]++
		}
	}
	told.want(t, 20, api.NoFault, api.NoObs, api.Overflow)
}
