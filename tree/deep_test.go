package tree_test

import (
	"slices"
	"strings"
	"testing"

	"payoff/api"
	"payoff/tree"
)

// deepest is how many parts may be nested in one another.
const deepest = 1 << 16

// P709: an opening again and again, with its end or without.
func TestDeepExprTexts(t *testing.T) {
	for _, a := range []struct{ open, inner, close string }{
		{"(", "1", ")"}, {"-", "1", ""}, {"!", "1", ""}, {"-(", "1", ")"}, {"f(", "1", ")"}, {"f(1,", "1", ")"}, {"min(", "1", ",1)"}, {"max(1,", "1", ")"}, {"abs(", "1", ")"}, {"ratio(1,", "1", ",1,down)"},
		{"a?", "1", ":1"}, {"a?1:", "1", ""}, {"(a?1:", "1", ")?1:1"}, {"1+", "1", ""}, {"1+(", "1", ")"}, {"", "1", "-1"}, {"1||(1&&(", "1", "))"}, {"1<(", "1", ")"}, {"(", "1", "*1)"},
	} {
		times := (mostBytes - len(a.inner) - 1) / len(a.open+a.close)
		text := strings.Repeat(a.open, times) + a.inner + strings.Repeat(a.close, times)
		e, at, err := tree.ParseExpr(text)
		if at != 0 || err != api.OK {
			t.Errorf("%.20q..: %d, %d", text, at, err)
			continue
		}
		wantFixed(t, e)
		wantParseExpr(t, text[:len(text)-1], nil, len(text)-1)
		if a.close == "" {
			continue
		}
		wantParseExpr(t, text+")", nil, len(text))
		if a.open != "" {
			text = strings.Repeat(a.open, mostBytes/len(a.open))
			wantParseExpr(t, text, nil, len(text))
			wantParseExpr(t, text[:len(text)-len(a.open)]+"$", nil, len(text)-len(a.open))
		}
	}
}

// wantFixed: what is printed is read as the same, if it is not too long.
func wantFixed(t *testing.T, e api.Expr) {
	t.Helper()
	text, err := tree.PrintExpr(e)
	again, at, errAgain := tree.ParseExpr(text)
	if err == api.ErrLong && text == "" {
		return
	}
	if err != api.OK || at != 0 || errAgain != api.OK || !sameExpr(e, again) {
		t.Errorf("%.40q..: %d, %d, %d", text, err, at, errAgain)
	}
}

func sameExpr(a, b api.Expr) bool {
	return tree.Equal(api.Deal{Defs: []api.Def{{Body: a}}}, api.Deal{Defs: []api.Def{{Body: b}}})
}

// P709
func TestDeepDealTexts(t *testing.T) {
	for _, a := range []struct{ open, inner, close string }{
		{"{", "zero", "}"}, {"give ", "zero", ""}, {"give{", "zero", "}"}, {"scale(1)", "zero", ""}, {"delay(0)", "zero", ""}, {"at(2000-01-01)", "zero", ""}, {"if(1)", "zero", " else zero"}, {"if(1)zero else ", "zero", ""}, {"let a=1 in ", "zero", ""},
		{"for a in 0..1 ", "zero", ""}, {"accumulate a=1 for a in 0..1 by 1 then ", "zero", ""}, {"when(1)within 1 ", "zero", " else zero"}, {"when(1)within 1 zero else ", "zero", ""}, {"", "zero", " and zero"}, {"zero and{", "zero", "}"}, {"{{give{", "zero and zero", "}}}"},
	} {
		times := (mostBytes - len(ahead+a.inner+behind)) / len(a.open+a.close)
		text := ahead + strings.Repeat(a.open, times) + a.inner + strings.Repeat(a.close, times) + behind
		d, at, e := tree.Parse(text)
		if at != 0 || e != api.OK || tree.Valid(d) != api.OK {
			t.Errorf("%s: %d, %d", a.open, at, e)
			continue
		}
		printed, e := tree.Print(d)
		if again, _, f := tree.Parse(printed); e != api.ErrLong && (e != api.OK || f != api.OK || !tree.Equal(again, d)) {
			t.Errorf("%s: %d, %d", a.open, e, f)
		}
		if _, at, e := tree.Parse(text[:len(text)-2]); at != len(text)-2 || e != api.ErrSyntax {
			t.Errorf("%s: %d, %d", a.open, at, e)
		}
		open := strings.Repeat(a.open, (mostBytes-len(ahead))/max(1, len(a.open)))
		if _, at, e := tree.Parse(ahead + open); at != len(ahead+open) || e != api.ErrSyntax {
			t.Errorf("%s: %d, %d", a.open, at, e)
		}
	}
}

// nested puts an expression into others, the next around the last.
func nested(times int, inner api.Expr, around func(api.Expr) api.Expr) api.Expr {
	for range times {
		inner = around(inner)
	}
	return inner
}

// P709: all calls at expressions as deep as may be.
func TestDeepExprs(t *testing.T) {
	one := num(1)
	for i, around := range []func(api.Expr) api.Expr{
		func(e api.Expr) api.Expr { return x(api.XNeg, e) },
		func(e api.Expr) api.Expr { return x(api.XAdd, e, one) },
		func(e api.Expr) api.Expr { return x(api.XSub, one, e) },
		func(e api.Expr) api.Expr { return x(api.XIf, e, one, one) },
		func(e api.Expr) api.Expr { return x(api.XIf, one, one, e) },
		func(e api.Expr) api.Expr { return api.Expr{Op: api.XCall, Name: "f", Kids: []api.Expr{one, e}} },
	} {
		for _, times := range []int{deepest / 10, deepest} {
			e := nested(times, one, around)
			text, err := tree.PrintExpr(e)
			if times < deepest && err != api.OK || err == api.OK && len(text) > mostBytes || err != api.OK && (err != api.ErrLong || text != "") {
				t.Errorf("%d: %.20q, %d", i, text, err)
			}
			wantFixed(t, e)
			wantInvalidExpr(t, nested(times, num(-1), around))
			d, other := dealOf(pay(0)), dealOf(pay(0))
			d.Body.Exprs[0], other.Body.Exprs[0] = e, nested(times, num(2), around)
			if tree.Valid(d) != api.OK || !tree.Equal(d, d) || tree.Equal(d, other) {
				t.Errorf("%d: not valid, or not equal, or equal", i)
			}
			if c, err := tree.At(d, nil); err != api.OK || !tree.Equal(dealOf(c), d) {
				t.Errorf("%d: At: %d", i, err)
			}
		}
	}
}

// P709: all calls at contracts as deep as may be.
func TestDeepCons(t *testing.T) {
	for i, around := range []func(api.Con) api.Con{
		func(c api.Con) api.Con { return con(api.CGive, c) },
		func(c api.Con) api.Con { return con(api.CAnd, c, zero()) },
		func(c api.Con) api.Con { return con(api.CAnd, zero(), c) },
		func(c api.Con) api.Con {
			return api.Con{Kind: api.CIf, Exprs: []api.Expr{num(1)}, Kids: []api.Con{zero(), c}}
		},
	} {
		for _, times := range []int{deepest / 20, deepest} {
			d, other, wrong := zero(), pay(1), con(api.CGive)
			for range times {
				d, other, wrong = around(d), around(other), around(wrong)
			}
			text, e := tree.Print(dealOf(d))
			if times < deepest && e != api.OK || times == deepest && (e != api.ErrLong || text != "") {
				t.Errorf("%d: %.20q, %d", i, text, e)
			}
			if again, _, f := tree.Parse(text); e == api.OK && (f != api.OK || !tree.Equal(again, dealOf(d))) {
				t.Errorf("%d: %.20q, %d", i, text, f)
			}
			wantInvalid(t, dealOf(wrong))
			if tree.Valid(dealOf(d)) != api.OK || !tree.Equal(dealOf(d), dealOf(d)) || tree.Equal(dealOf(d), dealOf(other)) {
				t.Errorf("%d: not valid, or not equal, or equal", i)
			}
			c, e := tree.At(dealOf(d), nil)
			if e != api.OK || !tree.Equal(dealOf(c), dealOf(d)) {
				t.Errorf("%d: At: %d", i, e)
			}
			child := len(d.Exprs) + slices.IndexFunc(d.Kids, func(kid api.Con) bool { return kid.Kind == d.Kind })
			path := slices.Repeat([]int{child}, times)
			path[times-1] = len(d.Exprs) // the innermost one's kids are all zero
			wantAt(t, dealOf(d), path, zero(), api.OK)
			wantAt(t, dealOf(d), append(path, 0), api.Con{}, api.ErrRange)
		}
	}
}

// P704, P705: a text of just as many bytes as may be, and of one more; what is not valid is told ahead of that.
func TestPrintOfLongTexts(t *testing.T) {
	for _, over := range []int{-1, 0, 1, 2, 1000, mostBytes} {
		sum := num(1)
		for range (mostBytes+over-1)/4 - 2 {
			sum = x(api.XAdd, sum, num(1))
		}
		text := teller{}.expr(sum, 1)
		digits := strings.Repeat("1", mostBytes+over-len(text)-len(" + "))
		n := 0
		for range digits {
			n = n*10 + 1
		}
		sum = x(api.XAdd, sum, num(n))
		want := text + " + " + digits
		got, e := tree.PrintExpr(sum)
		if over <= 0 && (got != want || e != api.OK) || over > 0 && (got != "" || e != api.ErrLong) {
			t.Errorf("%d bytes: %d, %d", mostBytes+over, len(got), e)
		}
		wantInvalidExpr(t, x(api.XAdd, sum, num(-1)))
		wantInvalidExpr(t, x(api.XAdd, num(-1), sum))
	}
	for _, over := range []int{-1, 0, 1, 2, 1000, mostBytes} {
		d := dealOf(pay(1))
		for len(teller{}.deal(d)) < mostBytes+over-64 {
			room := mostBytes + over - 64 - len(teller{}.deal(d))
			d.Names = append(d.Names, slices.Repeat([]string{strings.Repeat("N", 30)}, 1+max(0, room/32-1))...)
		}
		for len(teller{}.deal(d)) < mostBytes+over {
			d.Body.Exprs[0] = x(api.XNeg, d.Body.Exprs[0])
		}
		want := teller{}.deal(d)
		got, e := tree.Print(d)
		if len(want) != mostBytes+over || over <= 0 && (got != want || e != api.OK) || over > 0 && (got != "" || e != api.ErrLong) {
			t.Errorf("%d bytes of %d: %d, %d", len(want), mostBytes+over, len(got), e)
		}
		if over == 0 {
			wantParse(t, got, &d, 0)
		}
		d.Body.Kids = []api.Con{zero()}
		wantInvalid(t, d)
	}
}
