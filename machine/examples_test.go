package machine_test

import (
	"math"
	"slices"
	"strings"
	"testing"

	"payoff/api"
	"payoff/asm"
	"payoff/machine"
	"payoff/verify"
)

// The examples of the chapter.

// program: a program as text, its lines behind each other with "; " between them.
func program(t *testing.T, text string) api.Program {
	t.Helper()
	p, line, e := asm.Parse(strings.ReplaceAll(text, "; ", "\n") + "\n")
	if e != api.OK {
		t.Fatalf("Parse(%q): line %d, %d", text, line, e)
	}
	return p
}

// example: the program of the examples.
func example(t *testing.T) api.Program {
	t.Helper()
	return program(t, "names S; curs EUR; pool 5; horizon 2; cells 1; slots 0; stack 2; day 0; obs S 0; store 0; end; day 2; load 0; obs S 1; add; flow EUR; const 5; flow EUR; end")
}

// seen: a row of observations that are there.
func seen(values ...int) []api.Cell {
	row := []api.Cell{}
	for _, v := range values {
		row = append(row, api.Cell{Has: true, V: v})
	}
	return row
}

// eur: flows of a day in EUR.
func eur(day int, amounts ...int) []api.Flow {
	var flows []api.Flow
	for _, v := range amounts {
		flows = append(flows, api.Flow{Day: day, Cur: "EUR", Amount: v})
	}
	return flows
}

func started(t *testing.T, p api.Program) *machine.Machine {
	t.Helper()
	m, e := machine.New(p)
	if e != api.OK || m == nil {
		t.Fatalf("New: %d", e)
	}
	return m
}

func wantDay(t *testing.T, m *machine.Machine, row []api.Cell, flows []api.Flow, fault api.Fault, e api.Errno) {
	t.Helper()
	if f, x, err := m.Day(row); !slices.Equal(f, flows) || x != fault || err != e {
		t.Errorf("Day(%v) = %v, %d, %d, want %v, %d, %d", row, f, x, err, flows, fault, e)
	}
}

func wantRun(t *testing.T, p api.Program, rows [][]api.Cell, out api.Outcome, e api.Errno) {
	t.Helper()
	if o, err := machine.Run(p, rows); !slices.Equal(o.Flows, out.Flows) || o.Fault != out.Fault || o.Day != out.Day || err != e {
		t.Errorf("Run(%v) = %+v, %d, want %+v, %d:\n%s", rows, o, err, out, e, shown(p))
	}
}

func wantResume(t *testing.T, p api.Program, s api.State, e api.Errno) *machine.Machine {
	t.Helper()
	m, err := machine.Resume(p, s)
	if err != e || (m == nil) != (e != api.OK) {
		t.Fatalf("Resume(%+v): %d, want %d:\n%s", s, err, e, shown(p))
	}
	if m != nil && !sameState(m.State(), s) {
		t.Fatalf("Resume(%+v): the state is %+v", s, m.State())
	}
	return m
}

// P1501, P1503, P1504
func TestExample1(t *testing.T) {
	p := example(t)
	if proof, _, _, e := verify.Verify(p); (proof != api.Proof{Stack: 2, Fuel: 10, Back: 1}) || e != api.OK {
		t.Fatalf("Verify = %v, %d", proof, e)
	}
	m := started(t, p)
	wantState(t, m, api.State{Cells: []int{0}}, false)
	wantDay(t, m, seen(10), nil, api.NoFault, api.OK)
	wantState(t, m, api.State{Today: 1, Steps: 3, Cells: []int{10}, Past: [][]api.Cell{seen(10)}}, false)
	wantDay(t, m, seen(20), nil, api.NoFault, api.OK)
	wantState(t, m, api.State{Today: 2, Steps: 3, Cells: []int{10}, Past: [][]api.Cell{seen(20)}}, false)
	wantDay(t, m, seen(99), eur(2, 30, 5), api.NoFault, api.OK)
	for range 3 {
		wantState(t, m, api.State{Today: 3, Steps: 10, Cells: []int{10}, Past: [][]api.Cell{seen(99)}}, true)
		wantDay(t, m, seen(1), nil, api.NoFault, api.ErrOver)
	}
}

// P1505
func TestExample2(t *testing.T) {
	p := example(t)
	wantRun(t, p, [][]api.Cell{seen(10), seen(20)}, api.Outcome{Flows: eur(2, 30, 5)}, api.OK)
	wantRun(t, p, [][]api.Cell{seen(10), seen(20), nil}, api.Outcome{Flows: eur(2, 30, 5)}, api.OK)
	wantRun(t, p, [][]api.Cell{seen(10), seen(20), seen(99), seen(7), nil}, api.Outcome{Flows: eur(2, 30, 5)}, api.OK)
	wantRun(t, p, [][]api.Cell{seen(10), {}}, api.Outcome{Fault: api.NoObs, Day: 2}, api.OK)
	wantRun(t, p, nil, api.Outcome{Fault: api.NoObs}, api.OK)
}

// P1503
func TestExample3(t *testing.T) {
	m := started(t, example(t))
	wantDay(t, m, seen(10, 7, 8), nil, api.NoFault, api.OK)
	wantState(t, m, api.State{Today: 1, Steps: 3, Cells: []int{10}, Past: [][]api.Cell{seen(10)}}, false)
	for _, row := range [][]api.Cell{{{Has: false, V: 9}}, {{}}, {}, nil, {{Has: false, V: 9}, {Has: true, V: 5}}} {
		m = started(t, example(t))
		wantDay(t, m, row, nil, api.NoObs, api.OK)
		for range 2 {
			wantState(t, m, api.State{Today: 1, Steps: 1, Cells: []int{0}, Past: [][]api.Cell{{{}}}, Fault: api.NoObs}, true)
			wantDay(t, m, seen(1), nil, api.NoFault, api.ErrOver)
		}
	}
}

// P1503
func TestExample4(t *testing.T) {
	m := started(t, example(t))
	wantDay(t, m, seen(10), nil, api.NoFault, api.OK)
	wantDay(t, m, seen(math.MaxInt), nil, api.NoFault, api.OK)
	wantDay(t, m, nil, nil, api.Overflow, api.OK)
	wantState(t, m, api.State{Today: 3, Steps: 6, Cells: []int{10}, Past: [][]api.Cell{{{}}}, Fault: api.Overflow, Day: 2}, true)
	wantDay(t, m, nil, nil, api.NoFault, api.ErrOver)
	wantRun(t, example(t), [][]api.Cell{seen(10), seen(math.MaxInt)}, api.Outcome{Fault: api.Overflow, Day: 2}, api.OK)
}

// P1502
func TestExample5(t *testing.T) {
	p := example(t)
	one := func() api.State {
		return api.State{Today: 1, Steps: 3, Cells: []int{10}, Past: [][]api.Cell{seen(10)}}
	}
	m := wantResume(t, p, one(), api.OK)
	wantDay(t, m, seen(20), nil, api.NoFault, api.OK)
	wantDay(t, m, nil, eur(2, 30, 5), api.NoFault, api.OK)
	for n, spoil := range []func(s *api.State){
		func(s *api.State) { s.Past = nil },
		func(s *api.State) { s.Cells = []int{} },
		func(s *api.State) { s.Steps = 4 },
		func(s *api.State) { s.Today = 4 },
		func(s *api.State) { s.Day = 1 },
		func(s *api.State) { s.Fault, s.Day = api.NoObs, 1 },
		func(s *api.State) { s.Today, s.Fault, s.Day = 2, api.Overflow, 1 },
	} {
		s := one()
		spoil(&s)
		if plainIsState(p, s) {
			t.Errorf("the plain reading takes %d: %+v", n, s)
		}
		wantResume(t, p, s, api.ErrState)
	}
	s := one()
	s.Fault = api.Overflow
	m = wantResume(t, p, s, api.OK)
	wantState(t, m, s, true)
	wantDay(t, m, seen(20), nil, api.NoFault, api.ErrOver)
}

// refusedBy: New, Resume and Run answer the error of Verify, whatever the state.
func refusedBy(t *testing.T, p api.Program, want api.Errno) {
	t.Helper()
	if _, _, _, e := verify.Verify(p); e != want {
		t.Fatalf("Verify: %d, want %d:\n%s", e, want, shown(p))
	}
	m, e := machine.New(p)
	if m != nil || e != want {
		t.Errorf("New: %v, %d, want %d:\n%s", m, e, want, shown(p))
	}
	for _, s := range []api.State{{}, {Cells: make([]int, max(0, min(p.Cells, 99)))}, {Today: -1}} {
		wantResume(t, p, s, want)
	}
	wantRun(t, p, [][]api.Cell{seen(10), seen(20)}, api.Outcome{}, want)
}

// P1501, P1502, P1505
func TestExample6(t *testing.T) {
	for e, spoil := range map[api.Errno]func(p *api.Program){
		api.ErrCanon: func(p *api.Program) { p.Horizon = 1 },
		api.ErrProof: func(p *api.Program) { p.Stack = 3 },
		api.ErrBack:  func(p *api.Program) { p.Days[1].Code[1].B = 3 },
		api.ErrStack: func(p *api.Program) { p.Days[1].Code[5] = api.Instr{Op: api.OpJump} },
		api.ErrSort:  func(p *api.Program) { p.Days[1].Code[2] = api.Instr{Op: api.OpLt} },
		api.ErrJump:  func(p *api.Program) { p.Days[1].Code[5] = api.Instr{Op: api.OpJump, A: 9} },
		api.ErrDead:  func(p *api.Program) { p.Days[1].Code[2] = api.Instr{Op: api.OpJump, A: 1} },
		api.ErrSlot:  func(p *api.Program) { p.Slots, p.Days[1].Code[0] = 1, api.Instr{Op: api.OpGet} },
	} {
		p := example(t)
		spoil(&p)
		refusedBy(t, p, e)
	}
}

// P1501 to P1505: programs that do nothing.
func TestNothing(t *testing.T) {
	for _, horizon := range []int{0, 1, 5, api.MaxHorizon} {
		p := api.Program{Horizon: horizon}
		m := started(t, p)
		for day := range horizon + 1 {
			wantState(t, m, api.State{Today: day}, false)
			wantDay(t, m, seen(day), nil, api.NoFault, api.OK)
		}
		wantState(t, m, api.State{Today: horizon + 1}, true)
		wantDay(t, m, nil, nil, api.NoFault, api.ErrOver)
		wantRun(t, p, nil, api.Outcome{}, api.OK)
		wantRun(t, p, [][]api.Cell{seen(1), nil}, api.Outcome{}, api.OK)
		wantResume(t, p, api.State{Today: horizon + 1}, api.OK)
		wantResume(t, p, api.State{Today: horizon + 2}, api.ErrState)
		wantResume(t, p, api.State{Today: horizon + 1, Fault: api.NoObs, Day: horizon}, api.ErrState)
	}
}
