package joint_test

import (
	"math"
	"slices"
	"strings"
	"testing"

	"payoff/api"
	"payoff/joint"
	"payoff/machine"
)

// manyNames: so many names of 31 bytes, from a number on, rising.
func manyNames(from, count int) []string {
	var list []string
	for n := range count {
		list = append(list, strings.Repeat("N", 29)+string([]byte{'A' + byte((from+n)/26), 'A' + byte((from+n)%26)}))
	}
	return list
}

func manyCurs(from, count int) []string {
	var list []string
	for n := range count {
		n += from
		list = append(list, string([]byte{'A' + byte(n/676), 'A' + byte(n/26%26), 'A' + byte(n%26)}))
	}
	return list
}

// manyNumbers: so many numbers, from the least one on or from so many behind it, the last ones being the greatest.
func manyNumbers(from, count int) []int {
	var list []int
	for n := range count {
		list = append(list, math.MinInt+(from+n)*(math.MaxInt/api.MaxPool*2))
	}
	return list
}

// reading: a program that looks at each of these names, which rise.
func reading(names ...string) api.Program {
	p := api.Program{Names: names, Stack: 1}
	var code []api.Instr
	for n := range names {
		code = append(code, instr(api.OpObs, n, 0), instr(api.OpDrop))
	}
	p.Days = []api.Segment{day(0, code...)}
	return p
}

// paying: a program in which its only constant flows in each of these currencies, which rise.
func paying(curs ...string) api.Program {
	p := api.Program{Curs: curs, Pool: []int{7}, Stack: 1}
	var code []api.Instr
	for n := range curs {
		code = append(code, instr(api.OpConst, 0), instr(api.OpFlow, n))
	}
	p.Days = []api.Segment{day(0, code...)}
	return p
}

// holding: a program that has these numbers, which rise.
func holding(pool ...int) api.Program {
	p := api.Program{Pool: pool, Stack: 1}
	var code []api.Instr
	for n := range pool {
		code = append(code, instr(api.OpConst, n), instr(api.OpDrop))
	}
	p.Days = []api.Segment{day(0, code...)}
	return p
}

// adding: a program with so many accumulators, the last of which is counted up.
func adding(cells int) api.Program {
	return api.Program{Pool: []int{1}, Cells: cells, Stack: 2, Days: []api.Segment{day(0, instr(api.OpLoad, cells-1), instr(api.OpConst, 0), instr(api.OpAdd), instr(api.OpStore, cells-1))}}
}

// idling: a program with so many instructions, its end being one of them, on a day.
func idling(d, instructions int) api.Program {
	return api.Program{Horizon: d, Days: []api.Segment{day(d, slices.Repeat([]api.Instr{instr(api.OpJump, 0)}, instructions-1)...)}}
}

// wantSize holds Join over programs that are as great as can be, or too great; a bad one among them is told first.
func wantSize(t *testing.T, what string, e api.Errno, ps ...api.Program) {
	t.Helper()
	if _, err := holdJoin(t, ps...); err != e {
		t.Errorf("%s: %d, want %d", what, err, e)
	}
	wantJoin(t, api.Program{}, api.ErrArg, append(slices.Clone(ps[:len(ps)-1]), api.Program{Stack: 1})...)
}

// P1901: names, up to the most and one more.
func TestMostNames(t *testing.T) {
	wantSize(t, "64 names of one", api.OK, reading(manyNames(0, 64)...), reading(manyNames(63, 1)...))
	wantSize(t, "65 names", api.ErrFull, reading(manyNames(0, 64)...), reading(manyNames(64, 1)...))
	wantSize(t, "64 names of two", api.OK, reading(manyNames(0, 40)...), reading(manyNames(24, 40)...))
	wantSize(t, "65 names of two", api.ErrFull, reading(manyNames(25, 40)...), reading(manyNames(0, 40)...))
	var ps []api.Program
	for n := range 64 {
		ps = append(ps, reading(manyNames(63-n, 1)...))
	}
	wantSize(t, "a name each", api.OK, ps...)
	ps[0] = reading(manyNames(63, 2)...)
	wantSize(t, "a name each, and one more", api.ErrFull, ps...)
}

// P1901: currencies, up to the most and one more.
func TestMostCurrencies(t *testing.T) {
	wantSize(t, "4096 of one", api.OK, paying(manyCurs(0, 4096)...), paying(manyCurs(4090, 6)...))
	wantSize(t, "4097", api.ErrFull, paying(manyCurs(4096, 1)...), paying(manyCurs(0, 4096)...))
	var ps []api.Program
	for n := range 64 {
		ps = append(ps, paying(manyCurs(64*n, 64)...))
	}
	wantSize(t, "64 each", api.OK, ps...)
	ps[63] = paying(manyCurs(64*63, 65)...)
	wantSize(t, "64 each, and one more", api.ErrFull, ps...)
}

// P1901: constants, up to the most and one more.
func TestMostConstants(t *testing.T) {
	wantSize(t, "16384 of one", api.OK, holding(manyNumbers(0, 16384)...), holding(manyNumbers(16383, 1)...))
	wantSize(t, "16385", api.ErrFull, holding(manyNumbers(0, 16384)...), holding(math.MaxInt))
	wantSize(t, "16384 of two", api.OK, holding(manyNumbers(1, 10000)...), holding(append(manyNumbers(6384-1000, 11000), math.MaxInt)...))
	wantSize(t, "16385 of two", api.ErrFull, holding(manyNumbers(0, 10000)...), holding(append(manyNumbers(6384-1000, 11000), math.MaxInt)...))
}

// P1901: accumulators, up to the most and one more.
func TestMostCells(t *testing.T) {
	wantSize(t, "32768 of one", api.OK, adding(32768), paying("EUR"))
	wantSize(t, "32769", api.ErrFull, adding(32768), adding(1))
	wantSize(t, "32768 of two", api.OK, adding(1), adding(32767))
	wantSize(t, "512 each", api.OK, slices.Repeat([]api.Program{adding(512)}, 64)...)
	wantSize(t, "512 each, and one more", api.ErrFull, append(slices.Repeat([]api.Program{adding(512)}, 63), adding(513))...)
	wantSize(t, "the most of each", api.ErrFull, slices.Repeat([]api.Program{adding(32768)}, 64)...)
}

// P1901: instructions, up to the most and one more: of one day one end is left alone, of two days both are.
func TestMostCode(t *testing.T) {
	t.Parallel()
	wantSize(t, "one", api.OK, idling(0, api.MaxCode))
	wantSize(t, "one, and an empty one", api.OK, idling(0, api.MaxCode), api.Program{Horizon: 5})
	wantSize(t, "one, and the least one", api.ErrFull, idling(0, api.MaxCode), idling(0, 2))
	wantSize(t, "two of a day", api.OK, idling(3, 100001), idling(3, api.MaxCode-100000))
	wantSize(t, "two of a day, and one more", api.ErrFull, idling(3, 100001), idling(3, api.MaxCode-100000+1))
	wantSize(t, "two of two days", api.OK, idling(3, 100000), idling(0, api.MaxCode-100000))
	wantSize(t, "two of two days, and one more", api.ErrFull, idling(3, 100001), idling(0, api.MaxCode-100000))
	of64 := slices.Repeat([]api.Program{idling(3660, 4096)}, 63)
	wantSize(t, "64 of a day", api.OK, append(of64, idling(3660, 4096+63))...)
	wantSize(t, "64 of a day, and one more", api.ErrFull, append(of64, idling(3660, 4096+64))...)
	if _, e := joint.Join(slices.Repeat([]api.Program{idling(1, api.MaxCode)}, 64)); e != api.ErrFull {
		t.Errorf("the most of each: %d", e)
	}
}

// everyDay: a program with code on every day.
func everyDay() api.Program {
	p := api.Program{Horizon: api.MaxHorizon}
	for d := range api.MaxHorizon + 1 {
		p.Days = append(p.Days, day(d, instr(api.OpJump, 0)))
	}
	return p
}

// P1901, P1902: as many days as there may be, of as many programs.
func TestMostDays(t *testing.T) {
	t.Parallel()
	wantSize(t, "64 programs with all days", api.OK, slices.Repeat([]api.Program{everyDay()}, 64)...)
	p := everyDay()
	p.Horizon, p.Days = 1000, p.Days[:1001]
	q, e := holdLater(t, p, 2660)
	if e != api.OK || len(q.Days) != 1001 || q.Days[1000].Day != 3660 {
		t.Errorf("Later: %d", e)
	}
	holdLater(t, p, 2661)
	if j, e := holdJoin(t, q, p); e != api.OK || len(j.Days) != 2002 {
		t.Errorf("two behind each other: %d", e)
	}
}

// P1901: the greatest stack and the most slots are not added up, and slots of another program that are still there do no harm.
func TestSlotsAndStack(t *testing.T) {
	high := api.Program{Pool: []int{1}, Stack: api.MaxStack, Days: []api.Segment{day(0, slices.Concat(
		slices.Repeat([]api.Instr{instr(api.OpConst, 0)}, api.MaxStack), slices.Repeat([]api.Instr{instr(api.OpDrop)}, api.MaxStack))...)}}
	truth := api.Program{Slots: api.MaxSlots, Stack: 1, Days: []api.Segment{day(0, instr(api.OpBool, 1), instr(api.OpKeep, 16383), instr(api.OpKeep, 0), instr(api.OpDrop), instr(api.OpGet, 0), instr(api.OpZero, 0))}}
	// It keeps slot 0 as a number on one of two ways alone.
	number := api.Program{Curs: []string{"EUR"}, Pool: []int{9}, Slots: 1, Stack: 2, Days: []api.Segment{day(0,
		instr(api.OpBool, 1), instr(api.OpZero, 5), instr(api.OpConst, 0), instr(api.OpKeep, 0), instr(api.OpGet, 0), instr(api.OpAdd), instr(api.OpFlow, 0))}}
	for _, ps := range [][]api.Program{{high, truth, number, number}, {number, number, truth, high}, {truth, number, truth, number}} {
		j, e := holdJoin(t, ps...)
		if e != api.OK {
			t.Fatalf("Join: %d", e)
		}
		if out, _ := machine.Run(j, nil); !slices.Equal(out.Flows, slices.Repeat([]api.Flow{{Cur: "EUR", Amount: 18}}, 2)) {
			t.Errorf("%v", out)
		}
	}
}

// P1901, P1905: what jumps to its end, over as much as there may be, goes on with the next program.
func TestLongestJump(t *testing.T) {
	const between = api.MaxCode - 5
	long := api.Program{Stack: 1, Days: []api.Segment{day(0, slices.Concat(
		[]api.Instr{instr(api.OpBool, 0), instr(api.OpZero, between)}, slices.Repeat([]api.Instr{instr(api.OpJump, 0)}, between))...)}}
	j, e := holdJoin(t, long, paying("EUR"))
	if e != api.OK {
		t.Fatalf("Join: %d", e)
	}
	m, _ := machine.New(j)
	flows, fault, _ := m.Day(nil)
	if !slices.Equal(flows, []api.Flow{{Cur: "EUR", Amount: 7}}) || fault != api.NoFault || m.State().Steps != 5 {
		t.Errorf("%v, %d, %d steps", flows, fault, m.State().Steps)
	}
	if j, e := holdJoin(t, paying("EUR"), long); e != api.OK || j.Days[0].Code[3].A != between {
		t.Errorf("the other way about: %d", e)
	}
}

// P1903: as many names as there may be.
func TestRenameMostNames(t *testing.T) {
	names := manyNames(0, 64)
	p := reading(names...)
	var turned, one, order []string
	for n, name := range names {
		turned = append(turned, name, names[(n+27)%64])
		one = append(one, name, "X")
		order = append(order, name, "A"+string([]byte{'Z' - byte(n/26), 'Z' - byte(n%26)}))
	}
	for n, c := range []struct {
		pairs []string
		names int
		first int
	}{{nil, 64, 0}, {turned, 64, 27}, {one, 1, 0}, {order, 64, 63}, {one[:126], 2, 1}, {turned[:2], 63, 26}} {
		q, e := holdRename(t, p, c.pairs...)
		if e != api.OK || len(q.Names) != c.names || q.Days[0].Code[0].A != c.first {
			t.Errorf("case %d: %d, %d names, the first is %d", n, e, len(q.Names), q.Days[0].Code[0].A)
		}
	}
	for n, pairs := range [][]string{append(turned, names[0], "X"), append(turned, "X", "Y"), turned[:127], append(slices.Clone(turned[:127]), "x"), slices.Repeat([]string{names[5], "X"}, 1<<16)} {
		if _, e := holdRename(t, p, pairs...); e != api.ErrArg {
			t.Errorf("wrong pairs %d: %d", n, e)
		}
	}
	p = exampleB()
	if _, e := holdRename(t, p, "R", strings.Repeat("X", 31)); e != api.OK {
		t.Errorf("a name of 31 bytes: %d", e)
	}
	for _, name := range []string{strings.Repeat("X", 32), strings.Repeat("X", 1<<16), "A\x00", "Ä", " A", "A "} {
		if _, e := holdRename(t, p, "R", name); e != api.ErrArg {
			t.Errorf("%.40q: %d", name, e)
		}
	}
}
