package check_test

import (
	"math"
	"strings"
	"testing"

	"payoff/api"
	"payoff/check"
)

func measured(t *testing.T, parts string) api.Measure {
	t.Helper()
	m, e := check.Measure(deal(t, parts))
	if e != api.OK {
		t.Errorf("Measure(%.200s): %d", parts, e)
	}
	return m
}

// P805: levels of expressions, calls, contracts, and of a chain of ands.
func TestDepth(t *testing.T) {
	for _, c := range []struct {
		depth int
		parts string
	}{
		{1, "contract zero;"},
		{2, "contract pay(EUR, 1);"},
		{3, "contract pay(EUR, -1);"},
		{5, "contract pay(EUR, 1 + 2 * -3);"},
		{5, "contract pay(EUR, -3 * 2 + 1);"},
		{4, "contract pay(EUR, true ? 1 : -1);"},
		{3, "contract pay(EUR, ratio(1, 2, 3, down));"},
		{3, "def f() = 1; contract pay(EUR, f());"},
		{3, "def f(x) = 1; contract pay(EUR, f(1));"},
		{5, "def f(x) = 1; contract pay(EUR, f(1 + -1));"},
		{5, "def f(x) = 1 + -x; contract pay(EUR, f(1));"},
		{4, "def f(x) = 1; def g() = f(1); contract pay(EUR, g());"},
		{4, "def f(x) = 1; def g() = f(1); def h() = ----1; contract pay(EUR, g());"},
		{1, "def f(x) = ----x; contract zero;"}, // nobody calls it
		{2, "contract give zero;"},
		{3, "contract let x = 1 + 1 in zero;"},
		{3, "contract let x = 1 in pay(EUR, x);"},
		{5, "contract let x = ---1 in pay(EUR, x);"},
		{4, "contract let x = 1 in give pay(EUR, x);"},
		{4, "contract accumulate s = --1 for i in 0 .. 1 by s then zero;"},
		{4, "contract accumulate s = 1 for i in 0 .. 1 by --s then zero;"},
		{4, "contract accumulate s = 1 for i in 0 .. 1 by s then give give zero;"},
		{4, "contract when (!!true) within 1 zero else zero;"},
		{3, "contract when (true) within 1 give zero else zero;"},
		{4, "contract when (true) within 1 zero else give give zero;"},
		{2, "contract zero and zero;"},
		{2, "contract zero and zero and zero and zero and zero;"},
		{3, "contract zero and { zero and zero };"},
		{3, "contract zero and zero and { zero and zero and zero } and zero;"},
		{3, "contract give zero and zero and zero;"},
		{3, "contract zero and give zero and zero;"},
		{3, "contract zero and zero and zero and give zero;"},
		{3, "contract give { zero and zero and zero };"},
		{4, "contract give { zero and zero } and zero;"},
		{4, "contract if (true) { zero and zero and give zero } else zero;"},
	} {
		if m := measured(t, c.parts); m.Depth != c.depth {
			t.Errorf("Depth(%s): %d, want %d", c.parts, m.Depth, c.depth)
		}
	}
}

// P805: the days that count, and those that do not.
func TestHorizon(t *testing.T) {
	for _, c := range []struct {
		horizon int
		parts   string
	}{
		{0, "contract zero;"},
		{0, "contract delay(7) zero;"},
		{0, "contract at(2024-02-01) zero;"},
		{0, "contract for i in 5 .. 9 zero;"},
		{0, "contract for i in every 1d from 2024-01-05 to 2024-02-01 zero;"},
		{7, "contract delay(7) pay(EUR, 0);"},
		{31, "contract at(2024-02-01) pay(EUR, 1);"},
		{8, "contract for i in 2 .. 9 step 3 pay(EUR, 1);"},
		{19, "contract for i in 2 .. 9 step 3 for j in 1 .. 11 give pay(EUR, 1);"},
		{31, "contract for i in every 1d from 2024-01-05 to 2024-02-01 pay(EUR, 1);"},
		{9, "contract delay(9) pay(EUR, 1) and delay(3) pay(EUR, 1);"},
		{9, "contract delay(3) pay(EUR, 1) and delay(9) pay(EUR, 1);"},
		{9, "contract if (true) delay(3) pay(EUR, 1) else delay(9) pay(EUR, 1);"},
		{11, "contract delay(3) accumulate s = 0 for i in 2 .. 9 step 3 by s then zero;"},
		{31, "contract delay(3) accumulate s = 0 for i in every 27d from 2024-01-05 to 2024-02-02 by s then zero;"},
		{15, "contract delay(3) accumulate s = 0 for i in 2 .. 9 step 3 by s then delay(4) pay(EUR, s);"},
		{8, "contract delay(3) when (true) within 5 zero else zero;"},
		{17, "contract for i in 0 .. 9 delay(3) when (true) within 5 zero else zero;"},
		{10, "contract delay(3) when (true) within 5 delay(2) pay(EUR, 1) else zero;"},
		{10, "contract delay(3) when (true) within 5 zero else delay(2) pay(EUR, 1);"},
		{stop - 1, "contract delay(1073741823) pay(EUR, 1);"},
		{stop, "contract delay(1073741824) pay(EUR, 1);"},
		{stop, "contract delay(1073741825) pay(EUR, 1);"},
		{stop, "contract delay(9223372036854775807) delay(9223372036854775807) pay(EUR, 1);"},
		{stop, "contract for i in 0 .. 9223372036854775807 pay(EUR, 1);"},
		{9, "contract for i in 9 .. 9223372036854775807 step 9223372036854775807 pay(EUR, 1);"},
		{stop, "contract accumulate s = 0 for i in 0 .. 9223372036854775807 by s then zero;"},
		{stop, "contract when (true) within 9223372036854775807 zero else zero;"},
		{stop - 1, "contract delay(1) when (true) within 1073741822 zero else zero;"},
		{stop, "contract delay(2) when (true) within 1073741823 zero else zero;"},
	} {
		if m := measured(t, c.parts); m.Horizon != c.horizon {
			t.Errorf("Horizon(%s): %d, want %d", c.parts, m.Horizon, c.horizon)
		}
	}
}

// P806: what a call and a name come to. A payment has two nodes beside its amount's.
func TestSizes(t *testing.T) {
	for _, c := range []struct {
		size  int
		parts string
	}{
		{1, "contract pay(EUR, 7);"},
		{4, "contract pay(EUR, ratio(1, 2, 3, down));"},
		{1, "contract pay(EUR, thirty(2024-01-01, 2024-02-01));"},
		{3, "contract pay(EUR, 1 + 2);"},
		{3, "contract let x = 1 + 2 in pay(EUR, x);"},
		{7, "contract let x = 1 + 2 in pay(EUR, x * x);"},
		{15, "contract let x = 1 + 2 in let x = x * x in pay(EUR, x - x);"},
		{1, "contract let x = 1 + 2 in pay(EUR, 1);"},
		{1, "contract let x = 1 + 2 in for x in 0 .. 0 pay(EUR, x);"},
		{1, "def f() = 1; contract pay(EUR, f());"},
		{3, "def f() = 1 + 1; contract pay(EUR, f());"},
		{1, "def f(x) = 1; contract pay(EUR, f(1 + 2));"},
		{3, "def f(x) = x; contract pay(EUR, f(1 + 2));"},
		{9, "def f(x) = x + x + 1; contract pay(EUR, f(1 + 2));"},
		{10, "def f(x, y) = x + x - y; contract pay(EUR, f(1 + 2, -1));"},
		{9, "def f(x, y) = x + x - y; contract pay(EUR, f(-1, 1 + 2));"},
		{7, "def f(x) = x + x; def g(y) = f(y); contract pay(EUR, g(1 + 2));"},
		{15, "def f(x) = x + x; def g(y) = f(f(y)); contract pay(EUR, g(1 + 2));"},
		{9, "def f(x) = x + x; def g(x, y) = f(y + y) + x; contract pay(EUR, g(1, 1));"},
		{2, "def f(x) = 2; def g(x, y) = f(x) - y; def h(x) = -f(g(x, x)); contract pay(EUR, h(1 + 2));"},
		{15, "def f(x) = x + x; contract let y = f(1 + 1 + 1 + 1) in pay(EUR, y);"},
		{31, "def f(x) = x + x; contract let y = f(1 + 1 + 1 + 1) in pay(EUR, f(y));"},
	} {
		m := measured(t, c.parts)
		if m.Nodes != c.size+2 || m.Actions != 1 || m.Bytes != 1024+64*m.Nodes {
			t.Errorf("Measure(%s): %+v, want a size of %d", c.parts, m, c.size)
		}
	}
}

// P807: each kind of contract around each other one that counts.
func TestWeights(t *testing.T) {
	const pay, sum, watch = "pay(EUR, 1)", "accumulate s = 1 + 1 for i in 0 .. 2 by -s then zero", "when (1 < 2) within 4 zero else zero"
	for _, c := range []struct {
		con                   string
		actions, nodes, cells int
	}{
		{"zero", 0, 0, 0},
		{pay, 1, 3, 0},
		{sum, 4, 5 + 3*4, 1},
		{watch, 5, 5 * 13, 1},
		{"give " + pay, 1, 4, 0},
		{"give " + sum, 4, 17, 1},
		{"give " + watch, 5, 65, 1},
		{"scale(1 + 1) " + pay, 1, 3 + 4, 0},
		{"scale(1 + 1) " + sum, 4, 17, 1},
		{"scale(1 + 1) " + watch, 5, 65, 1},
		{"delay(3) " + pay, 1, 3, 0},
		{"at(2024-01-09) " + pay, 1, 3, 0},
		{"let x = 1 + 1 in " + pay, 1, 3, 0},
		{"let x = 1 + 1 in " + watch, 5, 65, 1},
		{pay + " and " + sum, 5, 20, 1},
		{sum + " and " + watch, 9, 82, 2},
		{"if (1 < 2) " + pay + " else zero", 1, 3 + 4, 0},
		{"if (1 < 2) zero else " + pay, 1, 3 + 4, 0},
		{"if (true) " + sum + " else zero", 4, 17 + 4*2, 1},
		{"if (true) zero else " + watch, 5, 65 + 5*2, 1},
		{"for x in 1 .. 9 " + pay, 9, 27, 0},
		{"for x in 1 .. 9 step 4 " + sum, 12, 51, 3},
		{"for x in 1 .. 9 step 3 " + watch, 15, 195, 3},
		{"for x in every 1d from 2024-01-01 to 2024-01-08 following " + sum, 24, 102, 6},
		{"for x in every 1w from 2024-01-01 to 2024-01-31 for y in 0 .. 1 " + pay, 10, 30, 0},
		{"accumulate a = 1 for i in 0 .. 9 by a then " + pay, 12, 11*3 + 3, 1},
		{"accumulate a = 1 for i in every 1w from 2024-01-01 to 2024-01-31 by a then " + pay, 7, 6*3 + 3, 1},
		{"accumulate a = 1 for i in 0 .. 9 by i + a then " + sum, 15, 3 + 10*5 + 17, 2},
		{"when (true) within 0 " + pay + " else zero", 2, 11 + 7, 1},
		{"when (true) within 2 " + pay + " else zero", 6, 3*11 + 3*7, 1},
		{"when (true) within 2 zero else " + pay, 4, 3*11 + 7, 1},
		{"when (true) within 2 " + sum + " else " + watch, 3 + 12 + 5, 3*11 + 3*(17+4*4) + 65 + 5*4, 1 + 3 + 1},
		{"give if (true) scale(-1) when (1 < 2) within 1 give " + sum + " else " + pay + " else zero", 2 + 8 + 1,
			2*(2+3+10) + 2*(17+4*(2+4)) + (1 + 2 + 3 + 4 + 3), 1 + 2},
	} {
		want := api.Measure{Actions: c.actions, Nodes: c.nodes, Cells: c.cells, Names: 2, Bytes: 1104 + 64*c.nodes}
		m := measured(t, "observe A, B; contract "+c.con+";")
		m.Depth, m.Horizon = 0, 0
		if m != want {
			t.Errorf("Measure(%s): %+v, want %+v", c.con, m, want)
		}
	}
}

// P805 to P807: sums and products that stop at 2^30.
func TestMeasuresStop(t *testing.T) {
	const many = "for x in 1 .. 9223372036854775807 "
	for _, c := range []struct {
		con                          string
		actions, nodes, cells, bytes int
	}{
		{"for x in 1 .. 1073741823 pay(EUR, 1)", stop - 1, stop, 0, stop},
		{"for x in 1 .. 1073741824 pay(EUR, 1)", stop, stop, 0, stop},
		{"for x in 1 .. 1073741825 pay(EUR, 1)", stop, stop, 0, stop},
		{"for x in 1 .. 357913941 pay(EUR, 1)", 357913941, 1073741823, 0, stop},
		{"for x in 1 .. 357913942 pay(EUR, 1)", 357913942, stop, 0, stop},
		{"for x in 1 .. 5592399 pay(EUR, 1)", 5592399, 16777197, 0, stop - 192},
		{"for x in 1 .. 5592400 pay(EUR, 1)", 5592400, 16777200, 0, stop},
		{"for x in 1 .. 5592400 pay(EUR, 1) and for x in 1 .. 5 pay(EUR, 1)", 5592405, 16777215, 0, stop},
		{"for x in 0 .. 9223372036854775807 pay(EUR, 1)", stop, stop, 0, stop},
		{many + "zero", 0, 0, 0, 1024},
		{many + many + many + "zero", 0, 0, 0, 1024},
		{many + many + many + "pay(EUR, 1)", stop, stop, 0, stop},
		{many + "accumulate s = 1 for i in 0 .. 1 by s then zero", stop, stop, stop, stop},
		{"for x in 1 .. 1073741823 accumulate s = 1 for i in 0 .. 0 by s then zero", stop, stop, stop - 1, stop},
		{"accumulate s = 1 for i in 0 .. 9223372036854775807 by s then zero", stop, stop, 1, stop},
		{"accumulate s = 1 for i in 1 .. 1073741822 by s then zero", stop - 1, stop, 1, stop},
		{"when (true) within 9223372036854775807 zero else zero", stop, stop, 1, stop},
		{"when (true) within 1073741822 zero else zero", stop - 1, stop, 1, stop},
		{"when (true) within 9223372036854775807 when (true) within 9223372036854775807 pay(EUR, 1) else zero else zero", stop, stop, stop, stop},
	} {
		m := measured(t, "contract "+c.con+";")
		if m.Actions != c.actions || m.Nodes != c.nodes || m.Cells != c.cells || m.Bytes != c.bytes {
			t.Errorf("Measure(%s): %+v, want %+v", c.con, m, c)
		}
	}
}

// doubled: a row of lets, each twice the one ahead of it and one more, with sizes from 1 on.
func doubled(times int) string {
	var b strings.Builder
	b.WriteString("let x = 1 in ")
	for range times {
		b.WriteString("let x = x + x in ")
	}
	return b.String()
}

// P806, P807: sizes stop too, and a value that nothing names counts nothing.
func TestSizesStop(t *testing.T) {
	for times := range 100 {
		size := stop
		if times < 29 {
			size = 2<<times - 1
		} else if times == 29 {
			size = stop - 1
		}
		nodes := min(size+2, stop)
		if m := measured(t, "contract "+doubled(times)+"pay(EUR, x);"); m.Nodes != nodes || m.Actions != 1 {
			t.Errorf("doubled %d times: %+v", times, m)
		}
		if m := measured(t, "contract "+doubled(times)+"scale(x) pay(EUR, 1);"); m.Nodes != min(size+4, stop) {
			t.Errorf("doubled %d times, as a factor: %+v", times, m)
		}
		if m := measured(t, "contract "+doubled(times)+"if (x < 1) pay(EUR, 1) else pay(EUR, 1);"); m.Nodes != min(2*(size+6), stop) {
			t.Errorf("doubled %d times, in a test: %+v", times, m)
		}
		if m := measured(t, "contract "+doubled(times)+"pay(EUR, 1);"); m.Nodes != 3 {
			t.Errorf("doubled %d times, not named: %+v", times, m)
		}
		if m := measured(t, "def f(x) = 5; contract "+doubled(times)+"pay(EUR, f(x));"); m.Nodes != 3 {
			t.Errorf("doubled %d times, to a call that drops it: %+v", times, m)
		}
	}
}

// P806, P810: a definition's body is measured once: a chain of definitions, each of which calls the one ahead of it twice, costs what its text costs.
func TestChainOfDefinitions(t *testing.T) {
	t.Parallel()
	var b strings.Builder
	b.WriteString("observe A; def f0(x) = x + A[-2]; ")
	for i := 1; i <= 1000; i++ {
		now, before := "f"+decimal(i), "f"+decimal(i-1)
		b.WriteString("def " + now + "(x) = " + before + "(x) + " + before + "(" + before + "(1)); ")
	}
	defs := b.String()
	for i, own := 0, 2; i <= 1000; i, own = i+1, min(3*own+2, stop) {
		if i > 20 && i < 1000 {
			continue
		}
		m := measured(t, defs+"contract delay(2) pay(EUR, f"+decimal(i)+"(1 + 1));")
		if m.Nodes != min(own+5, stop) || m.Depth != 5+3*i || m.Horizon != 2 {
			t.Errorf("f%d: %+v, want a size of %d", i, m, own+3)
		}
	}
	wantMisfit(t, defs+"contract delay(1) pay(EUR, f1000(1));", 2, 0, 0)
}

// P808: each at its limit, one above, and below 0.
func TestWithin(t *testing.T) {
	full := api.Measure{Depth: 64, Horizon: 3660, Actions: 2048, Nodes: 16384, Cells: 512, Names: 64, Bytes: 1 << 21}
	field := func(m *api.Measure, i int) *int {
		return [...]*int{&m.Depth, &m.Horizon, &m.Actions, &m.Nodes, &m.Cells, &m.Names, &m.Bytes}[i]
	}
	for _, m := range []api.Measure{{}, full} {
		if e := check.Within(m); e != api.OK {
			t.Errorf("Within(%+v): %d", m, e)
		}
		for i := range 7 {
			for _, above := range []int{*field(&full, i) + 1, stop, math.MaxInt} {
				over := m
				*field(&over, i) = above
				if e := check.Within(over); e != api.ErrLimit {
					t.Errorf("Within(%+v): %d", over, e)
				}
				for k := range 7 {
					for _, below := range []int{-1, math.MinInt} {
						both := over
						*field(&both, k) = below
						if e := check.Within(both); e != api.ErrArg {
							t.Errorf("Within(%+v): %d", both, e)
						}
					}
				}
			}
			under := m
			*field(&under, i) = -1
			if e := check.Within(under); e != api.ErrArg {
				t.Errorf("Within(%+v): %d", under, e)
			}
		}
	}
}
