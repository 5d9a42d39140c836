package fan_test

import (
	"runtime"
	"slices"
	"sync"
	"sync/atomic"
	"testing"
	"time"

	"payoff/api"
	"payoff/fan"
)

// daily: a program that looks at A and pays it on each day up to a last one.
func daily(last int) api.Program {
	p := api.Program{Names: []string{"A"}, Curs: []string{"EUR"}, Horizon: last, Stack: 1}
	for d := range last + 1 {
		p.Days = append(p.Days, day(d, instr(api.OpObs, 0, 0), instr(api.OpFlow, 0)))
	}
	return p
}

// upTo: a scenario whose run over a daily program faults on a day, or, if that is none of its days, does not: the later that is the longer it takes.
func upTo(d int) api.Table { return of("A", make([]int, d)...) }

// P2002, P2005: the least that faults is told also where those behind it fault long ahead of it.
func TestTheFirstIsTheSlowest(t *testing.T) {
	const last = 299
	p := daily(last)
	var falling []api.Table
	for n := range 60 {
		falling = append(falling, upTo(last-4*n))
	}
	well := upTo(last + 1)
	for from := range 12 {
		scenarios := append(slices.Repeat([]api.Table{well}, from), falling[from:]...)
		wantFirst(t, p, scenarios, from)
		wantTotals(t, p, scenarios, from, api.NoObs)
	}
	// The one that faults stands anywhere, and nothing, or all, behind it does.
	for _, at := range []int{0, 1, 15, 16, 17, 30, 59} {
		scenarios := slices.Repeat([]api.Table{well}, 60)
		scenarios[at] = upTo(last)
		wantFirst(t, p, scenarios, at)
		wantTotals(t, p, scenarios, at, api.NoObs)
		for n := at + 1; n < 60; n++ {
			scenarios[n] = upTo(0)
		}
		wantFirst(t, p, scenarios, at)
		wantTotals(t, p, scenarios, at, api.NoObs)
	}
}

// P2002, P2005: all fault at once, over and over: how the workers run is another each time.
func TestAllFault(t *testing.T) {
	p := exampleP(5)
	scenarios := make([]api.Table, 1024)
	for range 20 {
		wantFirst(t, p, scenarios, 0)
		wantTotals(t, p, scenarios, 0, api.NoObs)
		wantFirst(t, p, append([]api.Table{of("A", 1)}, scenarios[:20]...), 1)
		wantFirst(t, p, scenarios[:1], 0)
	}
}

// P2005: which of a run's faults is told is that of the least scenario, not of the first that was done.
func TestTheFaultOfTheFirst(t *testing.T) {
	p := api.Program{Names: []string{"A"}, Pool: []int{1}, Horizon: 800, Stack: 2}
	for d := range 801 {
		p.Days = append(p.Days, day(d, instr(api.OpConst, 0), instr(api.OpObs, 0, 0), instr(api.OpDiv), instr(api.OpDrop)))
	}
	late := of("A", slices.Repeat([]int{1}, 801)...)
	late.Rows[800][0].V = 0
	scenarios := append([]api.Table{late}, make([]api.Table, 60)...)
	wantFirst(t, p, scenarios, 0)
	wantTotals(t, p, scenarios, 0, api.DivZero)
	wantTotals(t, p, scenarios[1:], 0, api.NoObs)
}

// P2005: the answer is the same however many of the workers can really run at once.
func TestProcessors(t *testing.T) {
	p := daily(30)
	var scenarios []api.Table
	for n := range 200 {
		scenarios = append(scenarios, upTo(31-n%7%3))
	}
	defer runtime.GOMAXPROCS(runtime.GOMAXPROCS(0))
	for _, processors := range []int{1, 2, 3, 16} {
		runtime.GOMAXPROCS(processors)
		for _, workers := range someWorkers {
			hold(t, p, scenarios, workers)
		}
	}
}

// settled waits till no more goroutines are there than before, and tells whether that came.
func settled(before int) bool {
	for range 2000 {
		if runtime.NumGoroutine() <= before {
			return true
		}
		time.Sleep(time.Millisecond)
	}
	return false
}

// P2005: no worker is left, whatever was answered.
func TestWorkersHaveEnded(t *testing.T) {
	p := daily(40)
	bad := p
	bad.Stack = 5
	faulty := append(slices.Repeat([]api.Table{upTo(41)}, 10), make([]api.Table, 900)...)
	before := runtime.NumGoroutine()
	for range 10 {
		for _, workers := range []int{0, 1, 2, 16} {
			ask(p, nil, workers)
			ask(p, faulty, workers)
			ask(p, faulty[:10], workers)
			ask(p, faulty[9:11], workers)
			ask(bad, faulty, workers)
			ask(p, []api.Table{{Names: []string{"a"}}}, workers)
		}
	}
	if !settled(before) {
		t.Errorf("%d goroutines, there were %d", runtime.NumGoroutine(), before)
	}
}

// What is free: never more workers than are asked for.
func TestNoMoreWorkers(t *testing.T) {
	p := daily(300)
	scenarios := slices.Repeat([]api.Table{upTo(301)}, 400)
	for _, workers := range []int{1, 2, 5, 16} {
		var most atomic.Int64
		ended := make(chan struct{})
		var watch sync.WaitGroup
		before := runtime.NumGoroutine()
		watch.Go(func() {
			for {
				most.Store(max(most.Load(), int64(runtime.NumGoroutine())))
				select {
				case <-ended:
					return
				default:
					runtime.Gosched()
				}
			}
		})
		fan.Each(p, scenarios, workers)
		close(ended)
		watch.Wait()
		// The watch is one more.
		if got := int(most.Load()) - before - 1; got > workers {
			t.Errorf("%d goroutines where %d workers were asked for", got, workers)
		}
		if !settled(before) {
			t.Fatal("goroutines are left")
		}
	}
}

// P2005, DOC.md, Rules: calls side by side over the same program and scenarios answer as one behind the other.
func TestCallsSideBySide(t *testing.T) {
	p := daily(50)
	var scenarios []api.Table
	for n := range 40 {
		scenarios = append(scenarios, upTo(51-n/30))
	}
	want := plainly(p, scenarios, 1)
	var callers sync.WaitGroup
	for n := range 8 {
		callers.Go(func() {
			for range 10 {
				if !ask(p, scenarios, 1+2*n).same(want) {
					t.Error("asked side by side, another answer")
				}
			}
		})
	}
	callers.Wait()
}
