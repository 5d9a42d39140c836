package joint_test

import (
	"math"
	"testing"

	"payoff/api"
	"payoff/image"
	"payoff/joint"
)

// The examples of the chapter.

// instr: an instruction, its operands behind its Op.
func instr(op int, operands ...int) api.Instr {
	i := api.Instr{Op: op}
	for n, place := range []*int{&i.A, &i.B} {
		if n < len(operands) {
			*place = operands[n]
		}
	}
	return i
}

// day: a day's code, closed by its end.
func day(d int, code ...api.Instr) api.Segment {
	return api.Segment{Day: d, Code: append(append([]api.Instr{}, code...), instr(api.OpEnd))}
}

func exampleA() api.Program {
	return api.Program{Names: []string{"S"}, Curs: []string{"EUR"}, Pool: []int{5}, Horizon: 1, Cells: 1, Stack: 1, Days: []api.Segment{
		day(0, instr(api.OpObs, 0, 0), instr(api.OpStore, 0)),
		day(1, instr(api.OpLoad, 0), instr(api.OpFlow, 0), instr(api.OpConst, 0), instr(api.OpFlow, 0)),
	}}
}

func exampleB() api.Program {
	return api.Program{Names: []string{"R"}, Curs: []string{"AUD"}, Pool: []int{3, 5}, Horizon: 3, Stack: 2, Days: []api.Segment{
		day(1, instr(api.OpConst, 1), instr(api.OpObs, 0, 1), instr(api.OpAdd), instr(api.OpFlow, 0)),
		day(3, instr(api.OpConst, 0), instr(api.OpFlow, 0)),
	}}
}

// exampleAB: the join of both; the name that a looks at and the one that b looks at are its own.
func exampleAB(ofA, ofB int, names ...string) api.Program {
	return api.Program{Names: names, Curs: []string{"AUD", "EUR"}, Pool: []int{3, 5}, Horizon: 3, Cells: 1, Stack: 2, Days: []api.Segment{
		day(0, instr(api.OpObs, ofA, 0), instr(api.OpStore, 0)),
		day(1, instr(api.OpLoad, 0), instr(api.OpFlow, 1), instr(api.OpConst, 1), instr(api.OpFlow, 1), instr(api.OpConst, 1), instr(api.OpObs, ofB, 1), instr(api.OpAdd), instr(api.OpFlow, 0)),
		day(3, instr(api.OpConst, 0), instr(api.OpFlow, 0)),
	}}
}

// wantJoin: what Join answers to programs.
func wantJoin(t *testing.T, want api.Program, err api.Errno, ps ...api.Program) {
	t.Helper()
	j, e := joint.Join(ps)
	wantProgram(t, "Join", j, e, want, err)
}

// P1901, P1904
func TestExample1(t *testing.T) {
	wantJoin(t, exampleAB(1, 0, "R", "S"), api.OK, exampleA(), exampleB())
	wantProof(t, "Join", exampleAB(1, 0, "R", "S"), api.Proof{Stack: 2, Fuel: 15, Back: 1})
	holdJoin(t, exampleA(), exampleB())
	holdJoin(t, exampleB(), exampleA())
}

// P1901, P1904
func TestExample2(t *testing.T) {
	twice := api.Program{Names: []string{"S"}, Curs: []string{"EUR"}, Pool: []int{5}, Horizon: 1, Cells: 2, Stack: 1, Days: []api.Segment{
		day(0, instr(api.OpObs, 0, 0), instr(api.OpStore, 0), instr(api.OpObs, 0, 0), instr(api.OpStore, 1)),
		day(1, instr(api.OpLoad, 0), instr(api.OpFlow, 0), instr(api.OpConst, 0), instr(api.OpFlow, 0), instr(api.OpLoad, 1), instr(api.OpFlow, 0), instr(api.OpConst, 0), instr(api.OpFlow, 0)),
	}}
	wantJoin(t, twice, api.OK, exampleA(), exampleA())
	wantProof(t, "Join", twice, api.Proof{Stack: 1, Fuel: 14})
	wantJoin(t, api.Program{}, api.ErrArg)
	wantJoin(t, api.Program{}, api.ErrArg, make([]api.Program, 65)...)
	bad := exampleB()
	bad.Stack = 3
	wantJoin(t, api.Program{}, api.ErrArg, bad)
	for place := range 3 {
		ps := []api.Program{exampleA(), exampleA(), exampleA()}
		ps[place] = bad
		wantJoin(t, api.Program{}, api.ErrArg, ps...)
	}
	wantJoin(t, api.Program{}, api.ErrFull, reading(manyNames(0, 64)...), reading(manyNames(64, 64)...))
}

// P1902
func TestExample3(t *testing.T) {
	moved := exampleA()
	moved.Horizon, moved.Days[0].Day, moved.Days[1].Day = 3, 2, 3
	q, e := joint.Later(exampleA(), 2)
	wantProgram(t, "Later", q, e, moved, api.OK)
	q, e = joint.Later(exampleA(), 0)
	wantProgram(t, "Later by nothing", q, e, exampleA(), api.OK)
	bad := exampleA()
	bad.Cells = 2
	for _, c := range []struct {
		p    api.Program
		days int
		e    api.Errno
	}{
		{exampleA(), 3659, api.OK}, {exampleA(), 3660, api.ErrLimit}, {exampleA(), math.MaxInt, api.ErrLimit}, {exampleA(), -1, api.ErrArg}, {exampleA(), math.MinInt, api.ErrArg},
		{bad, 0, api.ErrArg}, {bad, 2, api.ErrArg}, {bad, 3660, api.ErrArg}, {bad, math.MaxInt, api.ErrArg}, {bad, -1, api.ErrArg},
		{api.Program{}, 3660, api.OK}, {api.Program{}, 3661, api.ErrLimit}, {api.Program{Horizon: 3660}, 0, api.OK}, {api.Program{Horizon: 3660}, 1, api.ErrLimit}, {api.Program{Horizon: 3661}, 0, api.ErrArg},
	} {
		if _, e := holdLater(t, c.p, c.days); e != c.e {
			t.Errorf("Later by %d: %d, want %d", c.days, e, c.e)
		}
	}
}

// P1903
func TestExample4(t *testing.T) {
	other := exampleB()
	other.Names = []string{"S"}
	q, e := joint.Rename(exampleB(), "R", "S")
	wantProgram(t, "Rename", q, e, other, api.OK)
	both := exampleAB(1, 0, "R", "S")
	q, e = joint.Rename(both, "R", "S", "S", "R")
	wantProgram(t, "two turned", q, e, exampleAB(0, 1, "R", "S"), api.OK)
	q, e = joint.Rename(both, "R", "S")
	wantProgram(t, "two become one", q, e, exampleAB(0, 0, "S"), api.OK)
	q, e = joint.Rename(both, "R", "T", "S", "T")
	wantProgram(t, "two become another one", q, e, exampleAB(0, 0, "T"), api.OK)
	q, e = joint.Rename(both, "R", "Z")
	wantProgram(t, "another order", q, e, exampleAB(0, 1, "S", "Z"), api.OK)
	q, e = joint.Rename(exampleB())
	wantProgram(t, "no pairs", q, e, exampleB(), api.OK)
	bad := exampleB()
	bad.Slots = 1
	for _, pairs := range [][]string{
		{"S", "R"}, {"R"}, {"R", "r"}, {"R", "A", "R", "B"}, {"R", "A", "R", "A"}, {"R", "A", "R"}, {"R", ""}, {"", "A"}, {"r", "A"}, {"R", "1A"}, {"R", "_A"}, {"R", "A-B"}, {"R", "A", "A", "B"}, {"R", "A", "", ""},
	} {
		q, e := joint.Rename(exampleB(), pairs...)
		wantProgram(t, "Rename", q, e, api.Program{}, api.ErrArg)
		holdRename(t, exampleB(), pairs...)
	}
	for _, pairs := range [][]string{nil, {"R", "A"}, {"R"}} {
		q, e := joint.Rename(bad, pairs...)
		wantProgram(t, "Rename of a bad one", q, e, api.Program{}, api.ErrArg)
	}
}

// P1907
func TestJoinOfOne(t *testing.T) {
	for _, p := range []api.Program{{}, {Horizon: 3660}, exampleA(), exampleB(), exampleAB(0, 1, "R", "S")} {
		wantJoin(t, p, api.OK, p)
	}
	wantJoin(t, api.Program{Horizon: 9}, api.OK, api.Program{}, api.Program{Horizon: 9}, api.Program{Horizon: 3})
	if j, e := joint.Join([]api.Program{{}, exampleB(), {Horizon: 9}}); e != api.OK || j.Horizon != 9 || image.Equal(j, exampleB()) {
		t.Errorf("with empty ones: %d", e)
	}
}
