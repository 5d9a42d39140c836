package legs_test

import (
	"strconv"
	"strings"
	"testing"

	"payoff/api"
	"payoff/legs"
)

// P901: deals that are refused, and which error comes first.
func TestUnrollRefuses(t *testing.T) {
	wantRefused(t, api.Deal{}, api.ErrType)
	wantRefused(t, api.Deal{Name: "x", Start: api.Date{Y: 2024, M: 1, D: 1}, Body: api.Con{Kind: 13}}, api.ErrType)
	for _, parts := range []string{
		"contract pay(EUR, true);", "contract pay(EUR, x);", "contract pay(EUR, A[-1]);", "contract for t in 3..2 pay(EUR, 1);",
		"contract delay(5) at(2024-01-05) pay(EUR, 1);", "def f(a) = g(a); contract zero;",
		"contract delay(3661) pay(EUR, 1) and pay(EUR, true);",
	} {
		wantRefused(t, deal(t, parts), api.ErrType)
	}
	for _, parts := range []string{
		"contract delay(3661) pay(EUR, 1);", "contract for t in 0..2048 pay(EUR, 1);", "contract for t in 0..512 accumulate s = 0 for i in 0..0 by s then zero;",
		"contract " + strings.Repeat("give ", 63) + "pay(EUR, 1);", "contract pay(EUR, 1" + strings.Repeat(" + 1", 63) + ");",
		"contract for t in 0..9223372036854775807 pay(EUR, 1);", "contract delay(9223372036854775807) pay(EUR, 1);",
	} {
		wantRefused(t, deal(t, parts), api.ErrLimit)
	}
	many := deal(t, "contract pay(EUR, 1);")
	for i := range 63 {
		many.Names = append(many.Names, "A"+strconv.Itoa(i))
	}
	wantRefused(t, many, api.ErrLimit)
}

// P901: deals that are as great as may be.
func TestUnrollAtTheLimits(t *testing.T) {
	wantActions(t, "contract delay(3660) pay(EUR, A[-3660] + A);", 0, pays(3660, op(api.XAdd, xObs(0, 0), xObs(0, 3660))))
	var pay, set []api.Action
	for i := range 2048 {
		pay = append(pay, pays(i, xNum(i)))
	}
	wantActions(t, "contract for t in 0..2047 pay(EUR, t);", 0, pay...)
	for i := range 512 {
		set = append(set, sets(i, i, xNum(7)), sets(i, i, xCell(i)))
	}
	wantActions(t, "contract for t in 0..511 accumulate s = 7 for i in 0..0 by s then zero;", 512, set...)
	var gives []api.Step
	for range 62 {
		gives = append(gives, give())
	}
	wantActions(t, "contract "+strings.Repeat("give ", 62)+"pay(EUR, 1);", 0, pays(0, xNum(1), gives...))
	// 16384 nodes: 2048 actions of 8.
	d := deal(t, "contract for t in 0..2047 pay(EUR, -(A + 1 + t));")
	actions, _, e := legs.Unroll(d)
	if e != api.OK || len(actions) != 2048 || legs.Nodes(actions[2047].E) != 6 {
		t.Errorf("%d actions, %d", len(actions), e)
	}
	wantRefused(t, deal(t, "contract for t in 0..2046 pay(EUR, -(A + 1 + t)) and pay(EUR, -(A + 1 + (-1)));"), api.ErrLimit)
}

// P901: what brings no actions is passed over, however great it is; no accumulator of it is counted.
func TestNothingIsPassedOver(t *testing.T) {
	for _, parts := range []string{
		"contract zero;", "contract for t in 0..9223372036854775806 zero;", "contract for t in 0..1000000000 for u in 0..1000000000 give zero;",
		"contract for t in 0..3000 for u in 0..3000 for v in 0..3000 for w in 0..3000 zero;",
		"contract delay(9223372036854775807) zero;", "contract for t in every 1d from 2024-01-01 to 2034-01-01 if (A > 0) zero else scale(A) zero;",
	} {
		wantActions(t, parts, 0)
	}
	wantActions(t, "contract for t in 0..3000 for u in 0..3000 for v in 0..3000 for w in 0..3000 zero and pay(EUR, 5);", 0, pays(0, xNum(5)))
	wantActions(t, "contract if (A > 0) for t in 0..1000000000 zero else pay(EUR, 5);", 0, pays(0, xNum(5), test(false, op(api.XGt, xObs(0, 0), xNum(0)))))
	is := func(n int) api.X { return op(api.XEq, xCell(0), xNum(n)) }
	asks := sets(0, 0, op(api.XIf, is(0), op(api.XIf, op(api.XTrue), xNum(1), xNum(0)), xCell(0)))
	wantActions(t, "contract when (true) within 0 for t in 0..1000000000 zero else zero;", 1, asks)
	wantActions(t, "contract when (true) within 0 zero else pay(EUR, 5);", 1, asks, pays(0, xNum(5), test(true, is(0))))
	wantActions(t, "contract for t in 0..1 { zero and delay(1) zero and pay(EUR, t) };", 0, pays(0, xNum(0)), pays(1, xNum(1)))
}

// P901: an expression is built as of its day, with the names that are bound where it stands.
func TestNames(t *testing.T) {
	// The innermost binding counts.
	wantActions(t, "contract let x = 1 in let x = 2 in pay(EUR, x);", 0, pays(0, xNum(2)))
	wantActions(t, "contract let x = 1 in let x = x + x in pay(EUR, x);", 0, pays(0, op(api.XAdd, xNum(1), xNum(1))))
	wantActions(t, "contract let x = 1 in { let x = 2 in pay(EUR, x) and pay(EUR, x) };", 0, pays(0, xNum(2)), pays(0, xNum(1)))
	wantActions(t, "contract for x in 3..3 for x in 4..4 pay(EUR, x);", 0, pays(7, xNum(4)))
	wantActions(t, "contract let s = 5 in accumulate s = s for s in 1..1 by s then pay(EUR, s);", 1, sets(0, 0, xNum(5)), sets(1, 0, xNum(1)), pays(1, xCell(0)))
	wantActions(t, "contract let i = 5 in accumulate s = i for i in 1..1 by i then pay(EUR, i);", 1, sets(0, 0, xNum(5)), sets(1, 0, xNum(1)), pays(1, xNum(5)))
	// A let is of its own day, and of the names that are bound around it.
	wantActions(t, "contract delay(2) let x = A[-1] + day in for y in 1..2 let x = x * y in delay(3) pay(EUR, x - day);", 0,
		pays(6, op(api.XSub, op(api.XMul, op(api.XAdd, xObs(0, 1), xNum(2)), xNum(1)), xNum(6))),
		pays(7, op(api.XSub, op(api.XMul, op(api.XAdd, xObs(0, 1), xNum(2)), xNum(2)), xNum(7))))
	wantActions(t, "contract for y in 1..1 let x = y in for y in 2..2 pay(EUR, x * y);", 0, pays(3, op(api.XMul, xNum(1), xNum(2))))
	// A definition has its parameters alone; its arguments are of where the call stands.
	wantActions(t, "def f(x, y) = x - y; contract let x = 1 in let y = 2 in pay(EUR, f(y, f(x, 3)));", 0,
		pays(0, op(api.XSub, xNum(2), op(api.XSub, xNum(1), xNum(3)))))
	wantActions(t, "def f(x) = x + B[-1]; def g(y) = f(y * y) + y; contract delay(4) let x = A in delay(1) pay(EUR, g(x));", 0,
		pays(5, op(api.XAdd, op(api.XAdd, op(api.XMul, xObs(0, 4), xObs(0, 4)), xObs(1, 4)), xObs(0, 4))))
	wantActions(t, "def f() = day; contract delay(4) let x = f() in delay(1) pay(EUR, x * f());", 0, pays(5, op(api.XMul, xNum(4), xNum(5))))
	wantActions(t, "def f(x) = x > 1; contract let x = f(2) in if (x) pay(EUR, 1) else zero;", 0, pays(0, xNum(1), test(true, op(api.XGt, xNum(2), xNum(1)))))
	wantActions(t, "def f(a, b) = b; def g(a, b) = f(b, a); def h(a, b) = f(g(1, f(2, a)), g(b, 3)); contract pay(EUR, h(4, 5)) and pay(EUR, g(6, 7)) and pay(EUR, f(8, 9));", 0,
		pays(0, xNum(5)), pays(0, xNum(6)), pays(0, xNum(9)))
	wantActions(t, "def f(a, b) = b; def g(a) = f(1, f(a, a + 1)); contract pay(EUR, g(4));", 0, pays(0, op(api.XAdd, xNum(4), xNum(1))))
}

// P901: dates are numbers: a day may lie ahead of the start.
func TestDates(t *testing.T) {
	wantActions(t, "contract delay(3) pay(EUR, 2023-12-30 + 2024-03-01 + day);", 0, pays(3, op(api.XAdd, op(api.XAdd, xNum(-2), xNum(60)), xNum(3))))
	wantActions(t, "contract pay(EUR, thirty(2024-01-31, 2024-03-01) - thirty(2024-03-01, 2024-01-31));", 0, pays(0, op(api.XSub, xNum(31), xNum(-30))))
	wantActions(t, "contract delay(2) at(2024-01-11) at(2024-01-11) pay(EUR, day);", 0, pays(10, xNum(10)))
	// The offsets of dates are counted from the day on which the loop is acquired, of each of its days.
	d := deal(t, "contract for d in 1..2 for t in every 1m from 2024-02-01 to 2024-03-01 following pay(EUR, t);")
	d.Holidays = []api.Date{{Y: 2024, M: 2, D: 1}}
	wantUnrolled(t, d, 0, pays(32, xNum(31)), pays(32, xNum(30)), pays(60, xNum(59)), pays(60, xNum(58)))
	wantActions(t, "contract delay(5) accumulate s = day for t in every 2w from 2024-01-10 to 2024-01-24 by t then pay(EUR, day);", 1,
		sets(5, 0, xNum(5)), sets(9, 0, xNum(4)), sets(23, 0, xNum(18)), pays(23, xNum(23)))
}

// P901: steps, in their order; a set has the tests alone.
func TestSteps(t *testing.T) {
	a, b := op(api.XGt, xObs(0, 0), xNum(1)), op(api.XLt, xObs(1, 2), xNum(3))
	wantActions(t, "contract if (A > 1) give scale(A) delay(2) if (B < 3) zero else accumulate s = 0 for i in 1..1 by s then scale(s) pay(EUR, 9) else zero;", 1,
		sets(2, 0, xNum(0), test(true, a), test(false, b)), sets(3, 0, xCell(0), test(true, a), test(false, b)),
		pays(3, xNum(9), test(true, a), give(), times(xObs(0, 0)), test(false, b), times(xCell(0))))
	is := func(n int) api.X { return op(api.XEq, xCell(0), xNum(n)) }
	set := sets(0, 0, op(api.XIf, is(0), op(api.XIf, op(api.XFalse), xNum(1), xNum(0)), xCell(0)), test(true, a))
	wantActions(t, "contract if (A > 1) give when (false) within 0 pay(EUR, 1) else scale(2) pay(EUR, 2) else zero;", 1,
		set, pays(0, xNum(1), test(true, a), give(), test(true, is(1))), pays(0, xNum(2), test(true, a), give(), test(true, is(0)), times(xNum(2))))
}

// P901: the order by day, as they were met; accumulators are numbered as they are met.
func TestOrder(t *testing.T) {
	wantActions(t, "contract delay(1) pay(EUR, 1) and pay(EUR, 2) and for t in 0..1 pay(EUR, t) and delay(1) pay(EUR, 5) and pay(EUR, 6);", 0,
		pays(0, xNum(2)), pays(0, xNum(0)), pays(0, xNum(6)), pays(1, xNum(1)), pays(1, xNum(1)), pays(1, xNum(5)))
	wantActions(t, "contract for t in 0..1 accumulate a = 0 for i in 0..0 by 1 then accumulate b = a for i in 0..0 by 2 then zero;", 4,
		sets(0, 0, xNum(0)), sets(0, 0, xNum(1)), sets(0, 1, xCell(0)), sets(0, 1, xNum(2)),
		sets(1, 2, xNum(0)), sets(1, 2, xNum(1)), sets(1, 3, xCell(2)), sets(1, 3, xNum(2)))
	wantActions(t, "contract delay(1) accumulate a = 0 for i in 0..0 by 1 then zero and accumulate b = 7 for i in 0..0 by 8 then zero;", 2,
		sets(0, 1, xNum(7)), sets(0, 1, xNum(8)), sets(1, 0, xNum(0)), sets(1, 0, xNum(1)))
}

// rowOf: n lines, each made of its number and of that of the line ahead of it.
func rowOf(n int, line func(last, this string) string) string {
	var text strings.Builder
	for i := range n {
		text.WriteString(line(strconv.Itoa(i), strconv.Itoa(i+1)))
	}
	return text.String()
}

// What is free: a let's value or an argument that nothing names is not built, however great it would be.
func TestWhatNothingNames(t *testing.T) {
	lets := rowOf(55, func(last, this string) string { return "let x" + this + " = x" + last + " + x" + last + " in " })
	wantActions(t, "contract let x0 = A in "+lets+"pay(EUR, x2 * x0);", 0,
		pays(0, op(api.XMul, op(api.XAdd, op(api.XAdd, xObs(0, 0), xObs(0, 0)), op(api.XAdd, xObs(0, 0), xObs(0, 0))), xObs(0, 0))))
	defs := "def f0(a) = a + A; " + rowOf(25, func(last, this string) string { return "def f" + this + "(a) = f" + last + "(a) + f" + last + "(a); " })
	wantActions(t, defs+"def k(a, b) = b; def c(a) = 3; contract let x = f25(1) in pay(EUR, k(f25(2), 7) + c(f25(x)));", 0, pays(0, op(api.XAdd, xNum(7), xNum(3))))
}

// P1: definitions that pass on what they are given cost what their text costs, though each calls the one ahead of it twice or thrice.
func TestTowersOfDefinitionsThatPassOn(t *testing.T) {
	two := "def f0(a) = a; " + rowOf(29, func(last, this string) string { return "def f" + this + "(a) = f" + last + "(f" + last + "(a)); " })
	wantActions(t, two+"contract for t in 0..2 pay(EUR, f29(t) + f28(A));", 0,
		pays(0, op(api.XAdd, xNum(0), xObs(0, 0))), pays(1, op(api.XAdd, xNum(1), xObs(0, 1))), pays(2, op(api.XAdd, xNum(2), xObs(0, 2))))
	three := "def f0(a, b) = b; " + rowOf(18, func(last, this string) string {
		return "def f" + this + "(a, b) = f" + last + "(b, f" + last + "(f" + last + "(a, a), f" + last + "(1, b))); "
	})
	wantActions(t, three+"contract let x = f18(1, A) in delay(1) pay(EUR, f18(2, x));", 0, pays(1, xObs(0, 0)))
	// Here each makes something of its own, and no argument is named.
	none := "def f0(a) = -1; " + rowOf(29, func(last, this string) string { return "def f" + this + "(a) = f" + last + "(f" + last + "(a)); " })
	wantActions(t, none+"contract pay(EUR, f29(A));", 0, pays(0, op(api.XNeg, xNum(1))))
}
