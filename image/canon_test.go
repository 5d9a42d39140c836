package image_test

import (
	"math"
	"slices"
	"strings"
	"testing"

	"payoff/api"
	"payoff/image"
)

// holdCanon holds Canon and Encode against the plain reading, and that against what is wanted.
func holdCanon(t *testing.T, what string, p api.Program, e api.Errno) {
	t.Helper()
	if plain := plainCanon(p); plain != e {
		t.Fatalf("%s: the plain reading says %d, want %d", what, plain, e)
	}
	wantCanon(t, what, p, e)
	want, _ := plainEncode(p)
	wantBytes(t, p, want, e)
	if e == api.OK {
		wantRead(t, want, p, 0, api.OK)
	}
}

// coded: a program of one day, with that code and an end behind it.
func coded(p api.Program, list ...api.Instr) api.Program {
	p.Days = []api.Segment{{Code: append(list, api.Instr{Op: api.OpEnd})}}
	return p
}

// naming: for each of a list's parts the instruction that names it.
func naming(op, count int) []api.Instr {
	var list []api.Instr
	for a := range count {
		list = append(list, api.Instr{Op: op, A: a})
	}
	return list
}

func ofNames(names ...string) api.Program {
	return coded(api.Program{Names: names}, append(naming(api.OpObs, len(names)), api.Instr{Op: api.OpDrop})...)
}

func ofCurs(curs ...string) api.Program {
	return coded(api.Program{Curs: curs}, append(naming(api.OpFlow, len(curs)), api.Instr{Op: api.OpDrop})...)
}

func ofPool(pool ...int) api.Program {
	return coded(api.Program{Pool: pool}, append(naming(api.OpConst, len(pool)), api.Instr{Op: api.OpDrop})...)
}

// P1201: names.
func TestCanonNames(t *testing.T) {
	for _, names := range [][]string{{}, {"A"}, {"Z"}, {"A", "B"}, {"A", "A0"}, {"A", "AA"}, {"A0", "AA", "A_"}, {"X_1"}, {strings.Repeat("N", 31)}, {"A__", "A___"}} {
		holdCanon(t, "names "+strings.Join(names, " "), ofNames(names...), api.OK)
	}
	for _, names := range [][]string{{""}, {"a"}, {"Ab"}, {"1"}, {"_"}, {"_A"}, {"A "}, {" A"}, {"A\n"}, {"A\x00"}, {"Ä"}, {"\xff"}, {"A-"}, {"A", "A"}, {"B", "A"}, {"AA", "A"}, {"A", "C", "B"}, {"A", "B", "B"}, {"A_", "A0"}, {strings.Repeat("N", 32)}, {"A", "b"}, {"@"}, {"["}} {
		holdCanon(t, "names "+strings.Join(names, " "), ofNames(names...), api.ErrCanon)
	}
}

// P1201: currencies.
func TestCanonCurs(t *testing.T) {
	for _, curs := range [][]string{{}, {"EUR"}, {"AAA", "ZZZ"}, {"AAA", "AAB", "ABA", "BAA"}} {
		holdCanon(t, "curs "+strings.Join(curs, " "), ofCurs(curs...), api.OK)
	}
	for _, curs := range [][]string{{""}, {"EU"}, {"EURO"}, {"eur"}, {"EUr"}, {"EU1"}, {"EU_"}, {"€"}, {"EUR", "EUR"}, {"USD", "EUR"}, {"AAA", "CCC", "BBB"}, {"EUR", "usd"}, {"EU@"}, {"EU["}} {
		holdCanon(t, "curs "+strings.Join(curs, " "), ofCurs(curs...), api.ErrCanon)
	}
}

// P1201: constants.
func TestCanonPool(t *testing.T) {
	for _, pool := range [][]int{{}, {0}, {-1, 0, 1}, {math.MinInt}, {math.MaxInt}, {math.MinInt, math.MaxInt}, {math.MinInt, math.MinInt + 1, -1, 0, math.MaxInt - 1, math.MaxInt}} {
		holdCanon(t, "a pool", ofPool(pool...), api.OK)
	}
	for _, pool := range [][]int{{0, 0}, {1, 0}, {0, -1}, {math.MaxInt, math.MinInt}, {math.MinInt, math.MinInt}, {1, 3, 2}, {1, 2, 2}, {-1, math.MaxInt, 0}} {
		holdCanon(t, "a pool", ofPool(pool...), api.ErrCanon)
	}
}

// P1201: each part of a list is named by the code, by the instruction that names such a part.
func TestCanonNamesAll(t *testing.T) {
	three := api.Program{Names: []string{"A", "B", "C"}, Curs: []string{"AAA", "BBB", "CCC"}, Pool: []int{1, 2, 3}, Cells: 3, Slots: 3}
	all := slices.Concat(naming(api.OpObs, 3), naming(api.OpFlow, 3), naming(api.OpConst, 3))
	holdCanon(t, "all", coded(three, slices.Clone(all)...), api.OK)
	others := slices.Concat(naming(api.OpLoad, 3), naming(api.OpStore, 3), naming(api.OpKeep, 3), naming(api.OpGet, 3), naming(api.OpBool, 2), naming(api.OpRatio, 3), naming(api.OpJump, 3), naming(api.OpZero, 3))
	holdCanon(t, "all and others", coded(three, append(slices.Clone(all), others...)...), api.OK)
	for n := range all {
		holdCanon(t, "all but one", coded(three, append(slices.Delete(slices.Clone(all), n, n+1), others...)...), api.ErrCanon)
	}
	// What one day does not name another may.
	apart := three
	apart.Horizon = 9
	for n, i := range all {
		apart.Days = append(apart.Days, api.Segment{Day: n, Code: []api.Instr{i, {Op: api.OpEnd}}})
	}
	holdCanon(t, "a day each", apart, api.OK)
	// The days back are no name.
	holdCanon(t, "days back", coded(api.Program{Names: []string{"A", "B"}}, api.Instr{Op: api.OpObs, B: 1}), api.ErrCanon)
	holdCanon(t, "no code", api.Program{Names: []string{"A"}}, api.ErrCanon)
	holdCanon(t, "no code", api.Program{Curs: []string{"EUR"}}, api.ErrCanon)
	holdCanon(t, "no code", api.Program{Pool: []int{0}}, api.ErrCanon)
}

// P1201: the four numbers, with and without days.
func TestCanonNumbers(t *testing.T) {
	fields := []func(p *api.Program) *int{
		func(p *api.Program) *int { return &p.Horizon }, func(p *api.Program) *int { return &p.Cells },
		func(p *api.Program) *int { return &p.Slots }, func(p *api.Program) *int { return &p.Stack },
	}
	for n, last := range []int{3660, 32768, 16384, 16384} {
		for _, p := range []api.Program{{}, coded(api.Program{}, api.Instr{Op: api.OpDrop})} {
			for _, x := range []int{0, 1, 127, 128, last - 1, last} {
				*fields[n](&p) = x
				holdCanon(t, "a number", p, api.OK)
			}
			for _, x := range []int{-1, last + 1, math.MinInt, math.MaxInt, 1 << 32, -1 << 32} {
				*fields[n](&p) = x
				holdCanon(t, "a number", p, api.ErrCanon)
			}
		}
	}
}

// onDays: a program of such days.
func onDays(horizon int, days ...int) api.Program {
	p := api.Program{Horizon: horizon}
	for _, day := range days {
		p.Days = append(p.Days, api.Segment{Day: day, Code: []api.Instr{{Op: api.OpDrop}, {Op: api.OpEnd}}})
	}
	return p
}

// P1201: the days.
func TestCanonDays(t *testing.T) {
	every := make([]int, 3661)
	for day := range every {
		every[day] = day
	}
	holdCanon(t, "every day", onDays(3660, every...), api.OK)
	for _, days := range [][]int{{}, {0}, {1}, {5}, {0, 1}, {0, 5}, {4, 5}, {0, 2, 4}, {0, 1, 2, 3, 4, 5}} {
		holdCanon(t, "days", onDays(5, days...), api.OK)
	}
	for _, days := range [][]int{{-1}, {6}, {0, 0}, {5, 5}, {1, 0}, {5, 4}, {0, 3, 2}, {0, 6}, {-1, 0}, {0, -1}, {math.MinInt}, {math.MaxInt}, {math.MinInt, 0}, {0, math.MaxInt}, {0, 1, 1}} {
		holdCanon(t, "days", onDays(5, days...), api.ErrCanon)
	}
	holdCanon(t, "the first", onDays(0, 0), api.OK)
	holdCanon(t, "the second", onDays(0, 1), api.ErrCanon)
}

// P1201: a day's code, wherever the day stands.
func TestCanonCode(t *testing.T) {
	drop, end := api.Instr{Op: api.OpDrop}, api.Instr{Op: api.OpEnd}
	wrongs := [][]api.Instr{nil, {}, {end}, {drop}, {end, end}, {end, drop}, {drop, drop}, {drop, end, end}, {end, drop, end}, {drop, end, drop}, {drop, end, drop, end},
		{drop, {Op: api.OpEnd, A: 1}}, {drop, {Op: api.OpEnd, B: 1}}, {drop, {Op: -1}}, {{Op: -1}, end}, {{Op: 29}, end}, {drop, {Op: 29}, end}, {{Op: api.OpDrop, A: 1}, end}, {{Op: api.OpDrop, B: 1}, end}, {{Op: api.OpBool, A: 2}, end},
		{{Op: api.OpBool, A: -1}, end}, {{Op: api.OpRatio, A: 5}, end}, {{Op: api.OpJump, A: 1 << 18}, end}, {{Op: api.OpZero, A: -1}, end}, {{Op: math.MaxInt}, end}, {{Op: math.MinInt}, end}, {drop, drop, drop}}
	rights := [][]api.Instr{{drop, end}, {drop, drop, end}, {{Op: api.OpBool, A: 1}, end}, {{Op: api.OpRatio, A: 4}, end}, {{Op: api.OpJump, A: 1<<18 - 1}, end}, {{Op: api.OpZero, A: 1<<18 - 1}, end}}
	for at := range 3 {
		for _, list := range wrongs {
			p := onDays(9, 1, 2, 3)
			p.Days[at].Code = list
			holdCanon(t, "a wrong code", p, api.ErrCanon)
		}
		for _, list := range rights {
			p := onDays(9, 1, 2, 3)
			p.Days[at].Code = list
			holdCanon(t, "a code", p, api.OK)
		}
	}
}

// P1201: operands are below what the program has, or within what code.Valid takes.
func TestCanonOperands(t *testing.T) {
	p := api.Program{Names: []string{"A", "B"}, Curs: []string{"AAA", "BBB", "CCC"}, Pool: []int{1, 2, 3, 4}, Cells: 5, Slots: 6}
	all := slices.Concat(naming(api.OpObs, 2), naming(api.OpFlow, 3), naming(api.OpConst, 4))
	for op, bound := range map[int]int{api.OpObs: 2, api.OpFlow: 3, api.OpConst: 4, api.OpLoad: 5, api.OpStore: 5, api.OpKeep: 6, api.OpGet: 6} {
		for a := -1; a < 9; a++ {
			e := api.OK
			if a < 0 || a >= bound {
				e = api.ErrCanon
			}
			holdCanon(t, "an operand", coded(p, append(slices.Clone(all), api.Instr{Op: op, A: a})...), e)
		}
	}
	for b, e := range map[int]api.Errno{0: api.OK, 3660: api.OK, 3661: api.ErrCanon, -1: api.ErrCanon} {
		holdCanon(t, "days back", coded(p, append(slices.Clone(all), api.Instr{Op: api.OpObs, B: b})...), e)
	}
	for _, op := range []int{api.OpObs, api.OpFlow, api.OpConst, api.OpLoad, api.OpStore, api.OpKeep, api.OpGet} {
		holdCanon(t, "nothing to name", coded(api.Program{}, api.Instr{Op: op}), api.ErrCanon)
	}
	// The greatest cell and slot.
	for op, e := range map[int]api.Errno{api.OpLoad: api.OK, api.OpStore: api.OK} {
		holdCanon(t, "the last cell", coded(api.Program{Cells: 32768}, api.Instr{Op: op, A: 32767}), e)
		holdCanon(t, "no cell", coded(api.Program{Cells: 32767}, api.Instr{Op: op, A: 32767}), api.ErrCanon)
		holdCanon(t, "beyond all cells", coded(api.Program{Cells: 32768}, api.Instr{Op: op, A: 32768}), api.ErrCanon)
	}
	for op, e := range map[int]api.Errno{api.OpKeep: api.OK, api.OpGet: api.OK} {
		holdCanon(t, "the last slot", coded(api.Program{Slots: 16384}, api.Instr{Op: op, A: 16383}), e)
		holdCanon(t, "no slot", coded(api.Program{Slots: 16383}, api.Instr{Op: op, A: 16383}), api.ErrCanon)
	}
}

// P1205: programs that differ in one thing.
func TestEqualByOne(t *testing.T) {
	changes := []func(p *api.Program){
		func(p *api.Program) {},
		func(p *api.Program) { p.Names[0] = "T" }, func(p *api.Program) { p.Names = nil }, func(p *api.Program) { p.Names = append(p.Names, "") },
		func(p *api.Program) { p.Curs[0] = "USD" }, func(p *api.Program) { p.Curs = nil }, func(p *api.Program) { p.Curs = append(p.Curs, "") },
		func(p *api.Program) { p.Pool[1] = 6 }, func(p *api.Program) { p.Pool = p.Pool[:1] }, func(p *api.Program) { p.Pool = append(p.Pool, 0) }, func(p *api.Program) { slices.Reverse(p.Pool) },
		func(p *api.Program) { p.Horizon = 4 }, func(p *api.Program) { p.Cells = 1 }, func(p *api.Program) { p.Slots = -1 }, func(p *api.Program) { p.Stack = math.MinInt },
		func(p *api.Program) { p.Days[0].Day = 0 }, func(p *api.Program) { p.Days = p.Days[:1] }, func(p *api.Program) { p.Days = append(p.Days, api.Segment{}) }, func(p *api.Program) { slices.Reverse(p.Days) },
		func(p *api.Program) { p.Days[1].Code = p.Days[1].Code[:2] }, func(p *api.Program) { p.Days[1].Code = nil },
		func(p *api.Program) { p.Days[1].Code[0].Op = 77 }, func(p *api.Program) { p.Days[1].Code[1].A = -1 }, func(p *api.Program) { p.Days[1].Code[2].B = 1 },
	}
	for n, one := range changes {
		for m, other := range changes {
			if got := image.Equal(with(one), with(other)); got != (n == m) {
				t.Errorf("Equal of %d and %d: %t", n, m, got)
			}
		}
	}
	none, empty := onDays(1, 0, 1), onDays(1, 0, 1)
	none.Days[1].Code, empty.Days[1].Code = nil, []api.Instr{}
	wantEqual(t, "a day with nil and with an empty list", none, empty, true)
}
