package check_test

import (
	"math"
	"slices"
	"strings"
	"testing"

	"payoff/api"
	"payoff/check"
	"payoff/tree"
)

// P801: the observables first, then each definition whole, then the contract; a part itself ahead of what is in it.
func TestTheFirstMisfitIsTold(t *testing.T) {
	wantMisfit(t, "observe A, B, B, A; def f(a, a) = b; contract pay(EUR, true);", 0, 2)
	wantMisfit(t, "observe A, B; def f(a, a) = b; def f() = c; contract pay(EUR, true);", 1, 0)
	wantMisfit(t, "def f(a) = b; def f(a, a) = c; contract pay(EUR, true);", 1, 0, 0)
	wantMisfit(t, "def f(a) = a; def f(b) = c; contract pay(EUR, true);", 1, 1)
	wantMisfit(t, "def f(a) = a; def g(a, b, a) = c; contract pay(EUR, true);", 1, 1)
	wantMisfit(t, "def f(a) = a; def g(a, b) = c + d; contract pay(EUR, true);", 1, 1, 0, 0)
	wantMisfit(t, "def f(a) = a; def g(a, b) = a + !b + c; contract pay(EUR, true);", 1, 1, 0, 0, 1, 0)
	wantMisfit(t, "def f(a) = a; def g(a, b) = a + b; contract pay(EUR, true) and pay(EUR, x);", 2, 0, 0)
	wantMisfit(t, "contract pay(EUR, 1) and pay(EUR, x) and pay(EUR, y);", 2, 0, 1, 0)
	wantMisfit(t, "contract pay(EUR, g(x, true));", 2, 0)
	wantMisfit(t, "def g(a, b) = a; contract pay(EUR, g(x, true));", 2, 0, 0)
	wantMisfit(t, "def g(a, b) = a; contract pay(EUR, g(1, true));", 2, 0, 1)
	wantMisfit(t, "contract for i in 3 .. 2 pay(EUR, x);", 2)
	wantMisfit(t, "contract accumulate s = true for i in 3 .. 2 by true then pay(EUR, x);", 2)
	wantMisfit(t, "contract accumulate s = true for i in 2 .. 3 by true then pay(EUR, x);", 2, 0)
	wantMisfit(t, "contract accumulate s = 1 for i in 2 .. 3 by true then pay(EUR, x);", 2, 1)
	wantMisfit(t, "contract accumulate s = 1 for i in 2 .. 3 by 1 then pay(EUR, x);", 2, 2, 0)
	wantMisfit(t, "contract at(2023-01-01) pay(EUR, x);", 2)
	wantMisfit(t, "contract when (1) within 1 pay(EUR, x) else pay(EUR, y);", 2, 0)
	wantMisfit(t, "contract when (true) within 1 pay(EUR, x) else pay(EUR, y);", 2, 1, 0)
	wantMisfit(t, "contract when (true) within 1 zero else pay(EUR, y);", 2, 2, 0)
}

// P802: a child is looked at whole, and then for its sort, ahead of the next one.
func TestSortsAreAskedChildByChild(t *testing.T) {
	wantMisfit(t, "contract pay(EUR, true + x);", 2, 0, 0)
	wantMisfit(t, "contract pay(EUR, (true && x) + y);", 2, 0, 0, 1)
	wantMisfit(t, "contract pay(EUR, 1 + x + true);", 2, 0, 0, 1)
	wantMisfit(t, "contract pay(EUR, !(1 + 2));", 2, 0, 0)
	wantMisfit(t, "contract pay(EUR, !(1 < 2));", 2, 0)
	wantMisfit(t, "contract pay(EUR, x ? true : false);", 2, 0, 0)
	wantMisfit(t, "contract pay(EUR, 1 ? x : y);", 2, 0, 0)
	wantMisfit(t, "contract pay(EUR, true ? true : 1);", 2, 0, 2)
	wantMisfit(t, "contract pay(EUR, true ? true : false);", 2, 0)
	wantMisfit(t, "contract pay(EUR, true ? 1 : x);", 2, 0, 2)
	wantMisfit(t, "contract pay(EUR, true ? !1 : x);", 2, 0, 1, 0)
	wantMisfit(t, "contract if (true ? true : false) zero else zero;")
	wantMisfit(t, "contract pay(EUR, (true ? 1 : 2) + (false ? 3 : 4));")
}

// sample is an expression of each sort.
func sample(sort string) api.Expr {
	if sort == aTruth {
		return api.Expr{Op: api.XTrue}
	}
	return api.Expr{Op: api.XNum, Num: 1}
}

// P802: each operator over each choice of its kids' sorts, where each sort is wanted.
func TestSortsOfOperators(t *testing.T) {
	kids := func(op int) int {
		switch op {
		case api.XNeg, api.XNot, api.XAbs:
			return 1
		case api.XIf, api.XRatio:
			return 3
		}
		return 2
	}
	for op := api.XNeg; op <= api.XRatio; op++ {
		for choice := range 1 << kids(op) {
			e := api.Expr{Op: op}
			for i := range kids(op) {
				e.Kids = append(e.Kids, sample([]string{aNumber, aTruth}[choice>>i&1]))
			}
			hold(t, contractOf(api.Con{Kind: api.CPay, Cur: "EUR", Exprs: []api.Expr{e}}))
			hold(t, contractOf(api.Con{Kind: api.CIf, Exprs: []api.Expr{e}, Kids: []api.Con{zero(), zero()}}))
			let := api.Con{Kind: api.CLet, Name: "a", Exprs: []api.Expr{e}, Kids: []api.Con{zero()}}
			hold(t, contractOf(let))
		}
	}
	for op := api.XTrue; op <= api.XFalse; op++ {
		hold(t, contractOf(api.Con{Kind: api.CScale, Exprs: []api.Expr{{Op: op}}, Kids: []api.Con{zero()}}))
		hold(t, contractOf(api.Con{Kind: api.CWhen, Exprs: []api.Expr{{Op: op}}, Kids: []api.Con{zero(), zero()}}))
	}
	for _, text := range []string{"7", "day", "2024-01-05", "thirty(2024-01-05, 2023-01-05)", "A"} {
		wantMisfit(t, "observe A; contract pay(EUR, "+text+");")
		wantMisfit(t, "observe A; contract if ("+text+") zero else zero;", 2, 0)
	}
}

func zero() api.Con { return api.Con{Kind: api.CZero} }

func contractOf(body api.Con) api.Deal {
	return api.Deal{Name: "x", Start: date(2024, 1, 1), Names: []string{"A"}, Body: body}
}

// P802, P803: what a call wants, and its sort.
func TestCalls(t *testing.T) {
	wantMisfit(t, "def f() = true; contract if (f()) zero else zero;")
	wantMisfit(t, "def f() = true; contract pay(EUR, f());", 2, 0)
	wantMisfit(t, "def f(a) = a < 1; def g(a) = f(a) ? 1 : 2; contract pay(EUR, g(1));")
	wantMisfit(t, "def f(a) = a < 1; def g(a) = f(f(a)) ? 1 : 2; contract zero;", 1, 1, 0, 0, 0)
	wantMisfit(t, "def f(a) = a; contract pay(EUR, f());", 2, 0)
	wantMisfit(t, "def f(a) = a; contract pay(EUR, f(1, 2));", 2, 0)
	wantMisfit(t, "def f() = 1; contract pay(EUR, f(1));", 2, 0)
	wantMisfit(t, "def f(a) = a; contract pay(EUR, f);", 2, 0)
	wantMisfit(t, "def f() = 1; def g(f) = f() + f; contract pay(EUR, g(1));") // a parameter of a definition's name
	wantMisfit(t, "def a(a) = a; contract let a = true in pay(EUR, a(1));")
	wantMisfit(t, "def a(a) = a; contract let a = true in pay(EUR, a(a));", 2, 1, 0, 0)
	wantMisfit(t, "def f() = f(); contract zero;", 1, 0, 0)
	wantMisfit(t, "def f() = 1; def g() = h(); def h() = 1; contract zero;", 1, 1, 0)
	wantMisfit(t, "def f() = 1; def g() = f(); def h() = g() + f(); contract pay(EUR, h());")
	wantMisfit(t, "contract let x = 1 in pay(EUR, x());", 2, 1, 0)
	wantMisfit(t, "def f() = x; contract let x = 1 in pay(EUR, f());", 1, 0, 0) // nothing else is bound in a body
}

// P802, P804: what is bound where.
func TestBoundNames(t *testing.T) {
	wantMisfit(t, "contract let x = 1 in let y = x < 2 in if (y) pay(EUR, x) else zero;")
	wantMisfit(t, "contract let x = 1 in let x = x < 2 in if (x) zero else zero;")
	wantMisfit(t, "contract let x = 1 in let x = x < 2 in pay(EUR, x);", 2, 1, 1, 0)
	wantMisfit(t, "contract let x = x in zero;", 2, 0)
	wantMisfit(t, "contract { let x = 1 in zero } and pay(EUR, x);", 2, 1, 0)
	wantMisfit(t, "contract let x = true in { { let x = 1 in pay(EUR, x) } and if (x) zero else zero };")
	wantMisfit(t, "contract for x in 0 .. 1 pay(EUR, x);")
	wantMisfit(t, "contract let x = true in for x in 0 .. 1 pay(EUR, x);")
	wantMisfit(t, "contract { for x in 0 .. 1 zero } and pay(EUR, x);", 2, 1, 0)
	wantMisfit(t, "contract for x in 0 .. 1 let x = true in if (x) zero else zero;")
	wantMisfit(t, "contract accumulate s = s for i in 0 .. 1 by s then zero;", 2, 0)
	wantMisfit(t, "contract accumulate s = i for i in 0 .. 1 by s then zero;", 2, 0)
	wantMisfit(t, "contract accumulate s = 1 for i in 0 .. 1 by s + i then pay(EUR, s);")
	wantMisfit(t, "contract accumulate s = 1 for i in 0 .. 1 by s + i then pay(EUR, i);", 2, 2, 0)
	wantMisfit(t, "contract accumulate s = 1 for s in 0 .. 1 by s + s then pay(EUR, s);")
	wantMisfit(t, "contract let i = true in accumulate s = 1 for i in 0 .. 1 by i then if (i) zero else zero;")
	wantMisfit(t, "contract let s = true in accumulate s = s ? 1 : 2 for i in 0 .. 1 by s then pay(EUR, s);")
	wantMisfit(t, "contract let s = true in { { accumulate s = 1 for i in 0 .. 1 by s then zero } and pay(EUR, s) };", 2, 1, 1, 0)
	wantMisfit(t, "contract when (true) within 1 let x = 1 in zero else pay(EUR, x);", 2, 2, 0)
	wantMisfit(t, "contract scale(x) let x = 1 in zero;", 2, 0)
}

// P802: an observation is one of the deal's, and not ahead of day 0 on any day on which it may be looked at.
func TestObservations(t *testing.T) {
	wantMisfit(t, "observe A; contract pay(EUR, A);")
	wantMisfit(t, "observe A; contract pay(EUR, B);", 2, 0)
	wantMisfit(t, "contract pay(EUR, A);", 2, 0)
	for _, c := range []struct {
		con string
		at  []int
		far int
	}{
		{"delay(3) pay(EUR, ?)", []int{2, 0, 0}, 3},
		{"delay(3) delay(4) scale(?) zero", []int{2, 0, 0, 0}, 7},
		{"at(2024-01-11) pay(EUR, ?)", []int{2, 0, 0}, 10},
		{"delay(3) let x = ? in delay(1) zero", []int{2, 0, 0}, 3},
		{"delay(3) if (? > 0) zero else zero", []int{2, 0, 0, 0}, 3},
		{"for i in 2 .. 9 pay(EUR, ?)", []int{2, 0, 0}, 2},
		{"delay(1) for i in 2 .. 9 pay(EUR, ?)", []int{2, 0, 0, 0}, 3},
		{"for i in every 1d from 2024-01-05 to 2024-02-01 pay(EUR, ?)", []int{2, 0, 0}, 4},
		{"delay(1) for i in every 1d from 2024-01-05 to 2024-02-01 pay(EUR, ?)", []int{2, 0, 0, 0}, 4},
		{"delay(1) accumulate s = ? for i in 2 .. 9 step 3 by s then zero", []int{2, 0, 0}, 1},
		{"delay(1) accumulate s = 0 for i in 2 .. 9 step 3 by ? then zero", []int{2, 0, 1}, 3},
		{"delay(1) accumulate s = 0 for i in 2 .. 9 step 3 by s then pay(EUR, ?)", []int{2, 0, 2, 0}, 9},
		{"delay(1) accumulate s = ? for i in every 1w from 2024-01-05 to 2024-01-25 by s then zero", []int{2, 0, 0}, 1},
		{"delay(1) accumulate s = 0 for i in every 1w from 2024-01-05 to 2024-01-25 by ? then zero", []int{2, 0, 1}, 4},
		{"delay(1) accumulate s = 0 for i in every 1w from 2024-01-05 to 2024-01-25 by s then pay(EUR, ?)", []int{2, 0, 2, 0}, 18},
		{"delay(2) when (? > 0) within 5 zero else zero", []int{2, 0, 0, 0}, 2},
		{"delay(2) when (true) within 5 pay(EUR, ?) else zero", []int{2, 0, 1, 0}, 2},
		{"delay(2) when (true) within 5 zero else pay(EUR, ?)", []int{2, 0, 2, 0}, 7},
		{"give { zero and delay(3) pay(EUR, ?) }", []int{2, 0, 1, 0, 0}, 3},
	} {
		for _, defs := range []string{"", "def f() = A; def g(x) = x + A[-#] + f(); def h() = A[-1] + g(A);"} {
			text := func(back int) string {
				seen := "A"
				if back > 0 {
					seen = "A[-" + decimal(back) + "]"
				}
				if defs != "" {
					seen = "h()"
				}
				return "observe A; " + strings.ReplaceAll(defs, "#", decimal(back)) + " contract " + strings.ReplaceAll(c.con, "?", seen) + ";"
			}
			wantMisfit(t, text(c.far))
			wantMisfit(t, text(c.far+1), c.at...)
			wantMisfit(t, text(math.MaxInt), c.at...)
		}
	}
}

func decimal(n int) string {
	text, _ := tree.PrintExpr(api.Expr{Op: api.XNum, Num: n})
	return text
}

// P802: a definition's body may look back any number of days; its calls may not.
func TestReach(t *testing.T) {
	wantMisfit(t, "observe A; def f() = A[-9223372036854775807]; contract zero;")
	wantMisfit(t, "observe A; def f() = A[-9]; def g() = f(); def h(x) = g() + x; contract zero;")
	wantMisfit(t, "observe A; def f() = A[-9]; def g() = f(); def h(x) = g() + x; contract delay(8) pay(EUR, h(1));", 2, 0, 0)
	wantMisfit(t, "observe A; def f() = A[-9]; def g() = f(); def h(x) = g() + x; contract delay(9) pay(EUR, h(1));")
	wantMisfit(t, "observe A; def f(x) = 1; contract pay(EUR, f(A[-1]));", 2, 0, 0) // an argument is looked at where it stands
	wantMisfit(t, "observe A; def f(x) = 1; def g() = f(A[-2]); contract delay(1) pay(EUR, g());", 2, 0, 0)
	wantMisfit(t, "observe A; def f(x) = 1; def g() = f(A[-2]); contract delay(2) pay(EUR, g());")
	wantMisfit(t, "def f() = A; contract zero;", 1, 0, 0)
}

// P802: days stop at 2^30, and an observation's Num where it is compared.
func TestObservationsAtTheStop(t *testing.T) {
	for _, c := range []struct {
		delay, back string
		fits        bool
	}{
		{"1073741823", "1073741823", true},
		{"1073741823", "1073741824", false},
		{"1073741824", "1073741824", true},
		{"1073741824", "1073741825", true},
		{"1073741824", "9223372036854775807", true},
		{"9223372036854775807", "9223372036854775807", true},
		{"1073741823", "9223372036854775807", false},
	} {
		var at []int
		if !c.fits {
			at = []int{2, 0, 0}
		}
		wantMisfit(t, "observe A; contract delay("+c.delay+") pay(EUR, A[-"+c.back+"]);", at...)
		wantMisfit(t, "observe A; def f() = A[-"+c.back+"]; contract delay("+c.delay+") pay(EUR, f());", at...)
		wantMisfit(t, "observe A; contract for i in "+c.delay+" .. 9223372036854775807 pay(EUR, A[-"+c.back+"]);", at...)
	}
	wantMisfit(t, "observe A; contract delay(1000000000) delay(1000000000) pay(EUR, A[-9223372036854775807]);")
	wantMisfit(t, "observe A; contract delay(500000000) delay(500000000) pay(EUR, A[-1000000001]);", 2, 0, 0, 0)
}

// P804: a date's day, and a schedule's first, are not ahead of LAST.
func TestDatesAndRanges(t *testing.T) {
	wantMisfit(t, "contract at(2024-01-01) zero;")
	wantMisfit(t, "contract at(2023-12-31) zero;", 2)
	wantMisfit(t, "contract at(1900-01-01) zero;", 2)
	wantMisfit(t, "contract at(2199-12-31) zero;")
	wantMisfit(t, "contract delay(9223372036854775807) at(2199-12-31) zero;", 2, 0)
	wantMisfit(t, "contract for i in 0 .. 4 at(2024-01-05) zero;")
	wantMisfit(t, "contract for i in 0 .. 5 at(2024-01-05) zero;", 2, 0)
	wantMisfit(t, "contract for i in 0 .. 5 step 2 at(2024-01-05) zero;")
	wantMisfit(t, "contract when (true) within 4 at(2024-01-05) zero else at(2024-01-05) zero;")
	wantMisfit(t, "contract when (true) within 5 at(2024-01-05) zero else zero;", 2, 1)
	wantMisfit(t, "contract when (true) within 5 zero else at(2024-01-05) zero;", 2, 2)
	wantMisfit(t, "contract accumulate s = 0 for i in 1 .. 4 by s then at(2024-01-05) zero;")
	wantMisfit(t, "contract accumulate s = 0 for i in 1 .. 5 by s then at(2024-01-05) zero;", 2, 2)
	for _, loop := range []string{"for j in every 1d from 2024-01-05 to 2024-02-01 zero;", "accumulate s = 0 for j in every 1d from 2024-01-05 to 2024-02-01 by s then zero;"} {
		wantMisfit(t, "contract for i in 0 .. 4 "+loop)
		wantMisfit(t, "contract for i in 0 .. 5 "+loop, 2, 0)
		wantMisfit(t, "contract for i in 0 .. 5 step 2 "+loop)
	}
	wantMisfit(t, "contract for i in 5 .. 5 zero;")
	wantMisfit(t, "contract for i in 6 .. 5 zero;", 2)
	wantMisfit(t, "contract for i in 9223372036854775807 .. 9223372036854775806 zero;", 2)
	wantMisfit(t, "contract for i in 0 .. 9223372036854775807 zero;")
	wantMisfit(t, "contract for i in every 1d from 2024-01-01 to 2024-01-01 zero;")
	wantMisfit(t, "contract for i in every 1d from 2024-01-02 to 2024-01-01 zero;", 2)
	wantMisfit(t, "contract for i in every 1d from 2023-12-31 to 2024-01-01 zero;", 2)
	wantMisfit(t, "contract for i in every 1d from 2023-12-31 to 2024-01-01 following zero;") // a Sunday
	wantMisfit(t, "contract delay(1) for i in every 1d from 2023-12-31 to 2024-01-01 following zero;", 2, 0)
	wantMisfit(t, "holidays 2024-01-01; contract delay(1) for i in every 1d from 2023-12-31 to 2024-01-01 following zero;")
	wantMisfit(t, "holidays 2024-01-01; contract for i in every 1d from 2024-01-01 to 2024-01-09 preceding zero;", 2)
	wantMisfit(t, "contract for i in every 1y from 2024-01-01 to 2034-01-08 zero;")
	wantMisfit(t, "contract for i in every 1y from 2024-01-01 to 2034-01-09 zero;", 2)
	wantMisfit(t, "contract for i in every 1y from 2024-01-02 to 2034-01-09 zero;")
	wantMisfit(t, "contract accumulate s = 0 for i in every 1y from 2024-01-01 to 2034-01-09 by s then zero;", 2)
	wantMisfit(t, "contract for i in every 1d from 2199-12-31 to 2199-12-31 following zero;")
	wantMisfit(t, "holidays 2199-12-31; contract for i in every 1d from 2199-12-31 to 2199-12-31 following zero;", 2)
	wantMisfit(t, "holidays 2199-12-31; contract for i in every 1d from 2199-12-31 to 2199-12-31 modified zero;")
}

// P801, P805, P809: what tree.Valid refuses.
func TestNoDeals(t *testing.T) {
	good := deal(t, "observe A; def f(x) = x; contract for i in 0 .. 1 pay(EUR, f(i));")
	for _, spoil := range []func(*api.Deal){
		func(d *api.Deal) { *d = api.Deal{} },
		func(d *api.Deal) { d.Name = "X" },
		func(d *api.Deal) { d.Start.D = 32 },
		func(d *api.Deal) { d.Names = []string{"a"} },
		func(d *api.Deal) { d.Names = []string{"A", "A", ""} },
		func(d *api.Deal) { d.Defs = append(slices.Clone(d.Defs), api.Def{}) },
		func(d *api.Deal) { d.Body = api.Con{} },
		func(d *api.Deal) { d.Body.Kind = 13 },
		func(d *api.Deal) { d.Body.Range.By = 0 },
		func(d *api.Deal) { d.Body.Range.Lo = -1 },
		func(d *api.Deal) { d.Body.Kids = nil },
		func(d *api.Deal) { d.Body.Exprs = []api.Expr{{Op: api.XTrue}} },
		func(d *api.Deal) {
			d.Body = api.Con{Kind: api.CPay, Cur: "EUR", Exprs: []api.Expr{{Op: api.XCell}}}
		},
	} {
		d := good
		spoil(&d)
		if path, e := check.Check(d); len(path) != 0 || e != api.ErrArg {
			t.Errorf("Check(%v): %v, %d", d, path, e)
		}
		if m, e := check.Measure(d); m != (api.Measure{}) || e != api.ErrArg {
			t.Errorf("Measure(%v): %v, %d", d, m, e)
		}
		wantDays(t, d, []int{2}, 0, 0, api.ErrArg)
		wantDays(t, d, []int{7}, 0, 0, api.ErrArg)
		wantOffsets(t, d, days(0, 1, 1), 0, api.ErrArg)
	}
}
