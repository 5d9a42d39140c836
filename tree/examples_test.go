package tree_test

import (
	"strings"
	"testing"

	"payoff/api"
	"payoff/tree"
)

func num(n int) api.Expr { return api.Expr{Op: api.XNum, Num: n} }

func name(s string) api.Expr { return api.Expr{Op: api.XName, Name: s} }

func obs(s string, back int) api.Expr { return api.Expr{Op: api.XObs, Name: s, Num: back} }

func date(y, m, d int) api.Date { return api.Date{Y: y, M: m, D: d} }

func zero() api.Con { return api.Con{Kind: api.CZero} }

func pay(n int) api.Con {
	return api.Con{Kind: api.CPay, Cur: "EUR", Exprs: []api.Expr{num(n)}}
}

func con(kind int, kids ...api.Con) api.Con { return api.Con{Kind: kind, Kids: kids} }

const (
	ahead  = "deal a { start 2026-01-02; contract "
	behind = "; }"
)

func dealOf(body api.Con) api.Deal {
	return api.Deal{Name: "a", Start: date(2026, 1, 2), Body: body}
}

// wantBody holds Parse against a deal of that contract, and Print against the contract's text.
func wantBody(t *testing.T, text string, body api.Con, printed string) {
	t.Helper()
	want := dealOf(body)
	wantParse(t, ahead+text+behind, &want, 0)
	wantPrint(t, want, "deal a {\n  start 2026-01-02;\n  contract "+printed+";\n}\n")
}

func wantPrint(t *testing.T, d api.Deal, want string) bool {
	t.Helper()
	text, e := tree.Print(d)
	if text != want || e != api.OK {
		t.Errorf("Print(%s): %.500q, %d, want %.500q", brief(d), text, e, want)
		return false
	}
	return true
}

func wantPrintExpr(t *testing.T, x api.Expr, want string) bool {
	t.Helper()
	text, e := tree.PrintExpr(x)
	if text != want || e != api.OK {
		t.Errorf("PrintExpr(%s): %.500q, %d, want %.500q", brief(x), text, e, want)
		return false
	}
	return true
}

// wantExpr holds ParseExpr against an expression, and PrintExpr against its text.
func wantExpr(t *testing.T, text string, want api.Expr, printed string) {
	t.Helper()
	wantParseExpr(t, text, &want, 0)
	wantPrintExpr(t, want, printed)
}

func TestExample1(t *testing.T) {
	wantBody(t, "zero", zero(), "zero")
	want := api.Deal{Name: "a", Start: date(2026, 1, 2), Body: zero()}
	wantParse(t, "deal a { start 2026-01-02; contract zero; }", &want, 0)
	wantPrint(t, want, "deal a {\n  start 2026-01-02;\n  contract zero;\n}\n")
}

func TestExample2(t *testing.T) {
	a, b, c := name("a"), name("b"), name("c")
	wantExpr(t, "1 + 2 * 3 - 4", x(api.XSub, x(api.XAdd, num(1), x(api.XMul, num(2), num(3))), num(4)), "1 + 2 * 3 - 4")
	wantExpr(t, "(1 + 2) * 3", x(api.XMul, x(api.XAdd, num(1), num(2)), num(3)), "(1 + 2) * 3")
	wantExpr(t, "1 + (2 + 3)", x(api.XAdd, num(1), x(api.XAdd, num(2), num(3))), "1 + (2 + 3)")
	wantExpr(t, "(1 * 2) + 3", x(api.XAdd, x(api.XMul, num(1), num(2)), num(3)), "1 * 2 + 3")
	wantExpr(t, "-(-1)", x(api.XNeg, x(api.XNeg, num(1))), "--1")
	wantExpr(t, "-(1 + 2)", x(api.XNeg, x(api.XAdd, num(1), num(2))), "-(1 + 2)")
	wantExpr(t, "!(a < b)", x(api.XNot, x(api.XLt, a, b)), "!(a < b)")
	wantExpr(t, "a < b ? 1 : b < c ? 2 : 3", x(api.XIf, x(api.XLt, a, b), num(1), x(api.XIf, x(api.XLt, b, c), num(2), num(3))), "a < b ? 1 : b < c ? 2 : 3")
	wantExpr(t, "(a ? b : c) ? 1 : 2", x(api.XIf, x(api.XIf, a, b, c), num(1), num(2)), "(a ? b : c) ? 1 : 2")
}

func TestExample3(t *testing.T) {
	wantExpr(t, "S[-3] * x / day", x(api.XDiv, x(api.XMul, obs("S", 3), name("x")), x(api.XDay)), "S[-3] * x / day")
	for text, place := range map[string]int{
		"S[-0]": 3, "S[3]": 2, "a < b < c": 6, "min(1)": 5, "ratio(1, 2, 3, up)": 15, "1 2": 2, "": 0, "1 +": 3, "if": 0, "1 + $": 4, "2 $": 2, "01": 0,
	} {
		wantParseExpr(t, text, nil, place)
	}
	wantExpr(t, "f()", api.Expr{Op: api.XCall, Name: "f"}, "f()")
	wantExpr(t, "1999-12-31", api.Expr{Op: api.XDate, Dates: []api.Date{date(1999, 12, 31)}}, "1999-12-31")
	wantExpr(t, "1999 - 12 - 31", x(api.XSub, x(api.XSub, num(1999), num(12)), num(31)), "1999 - 12 - 31")
}

func TestExample4(t *testing.T) {
	wantBody(t, "pay(EUR, 1) and pay(EUR, 2) and zero", con(api.CAnd, con(api.CAnd, pay(1), pay(2)), zero()), "pay(EUR, 1) and pay(EUR, 2) and zero")
	wantBody(t, "pay(EUR, 1) and { pay(EUR, 2) and zero }", con(api.CAnd, pay(1), con(api.CAnd, pay(2), zero())), "pay(EUR, 1) and { pay(EUR, 2) and zero }")
	wantBody(t, "give { pay(EUR, 1) and pay(EUR, 2) }", con(api.CGive, con(api.CAnd, pay(1), pay(2))), "give { pay(EUR, 1) and pay(EUR, 2) }")
	wantBody(t, "give { pay(EUR, 1) }", con(api.CGive, pay(1)), "give pay(EUR, 1)")
	choice := con(api.CIf, zero(), zero())
	choice.Exprs = []api.Expr{x(api.XTrue)}
	wantBody(t, "if(true) zero else zero and zero", con(api.CAnd, choice, zero()), "if(true) zero else zero and zero")
}

func TestExample5(t *testing.T) {
	loop := api.Con{Kind: api.CFor, Name: "x", Range: api.Range{Kind: api.RangeDays, Hi: 10, By: 2}, Kids: []api.Con{pay(1)}}
	loop.Kids[0].Exprs[0] = name("x")
	wantBody(t, "for x in 0..10 step 2 pay(EUR, x)", loop, "for x in 0..10 step 2 pay(EUR, x)")
	loop.Range = api.Range{Kind: api.RangeDates, From: date(2026, 1, 31), To: date(2027, 1, 31), Ten: api.Tenor{N: 3, Unit: api.UnitMonth}, Conv: api.Modified}
	loop.Kids[0] = zero()
	const quarters = "for x in every 3m from 2026-01-31 to 2027-01-31 modified zero"
	wantBody(t, quarters, loop, quarters)
	for body, wrong := range map[string]string{
		"for x in 0..10 step 1 zero": "1 zero", "for x in 0..10 step 0 zero": "0 zero", "for deal in 0..1 zero": "deal", "pay(EURO, 1)": "EURO",
	} {
		wantParse(t, ahead+body+behind, nil, len(ahead)+strings.Index(body, wrong))
	}
}

func TestExample6(t *testing.T) {
	loop := api.Con{Kind: api.CFor, Name: "x", Range: api.Range{Kind: api.RangeDays}, Kids: []api.Con{zero()}}
	wrong := []api.Deal{
		dealOf(api.Con{Kind: api.CZero, Num: 1}), dealOf(loop), dealOf(api.Con{Kind: 13}),
	}
	for _, s := range []string{"deal", "A", ""} {
		d := dealOf(zero())
		d.Name = s
		wrong = append(wrong, d)
	}
	for _, e := range []api.Expr{num(-1), {Op: api.XCell}, x(api.XAdd, num(1)), {Op: api.XNum, Name: "a"}} {
		body := pay(0)
		body.Exprs[0] = e
		wrong = append(wrong, dealOf(body))
		wantInvalidExpr(t, e)
	}
	for _, d := range wrong {
		wantInvalid(t, d)
	}
}

func wantInvalid(t *testing.T, d api.Deal) bool {
	t.Helper()
	text, e := tree.Print(d)
	if v := tree.Valid(d); v != api.ErrArg || text != "" || e != api.ErrArg {
		t.Errorf("%s: Valid %d, Print %.100q, %d", brief(d), v, text, e)
		return false
	}
	return true
}

func wantInvalidExpr(t *testing.T, x api.Expr) bool {
	t.Helper()
	if text, e := tree.PrintExpr(x); text != "" || e != api.ErrArg {
		t.Errorf("PrintExpr(%s): %.100q, %d", brief(x), text, e)
		return false
	}
	return true
}

func TestExample7(t *testing.T) {
	d, _, _ := tree.Parse(ahead + "if(true) give zero else zero" + behind)
	for _, a := range []struct {
		path []int
		want api.Con
		e    api.Errno
	}{
		{nil, d.Body, api.OK}, {[]int{}, d.Body, api.OK}, {[]int{1}, con(api.CGive, zero()), api.OK}, {[]int{1, 0}, zero(), api.OK}, {[]int{2}, zero(), api.OK},
		{[]int{0}, api.Con{}, api.ErrRange}, {[]int{3}, api.Con{}, api.ErrRange}, {[]int{-1}, api.Con{}, api.ErrRange},
	} {
		wantAt(t, d, a.path, a.want, a.e)
	}
}

func wantAt(t *testing.T, d api.Deal, path []int, want api.Con, wantE api.Errno) bool {
	t.Helper()
	c, e := tree.At(d, path)
	if !same(c, want) || e != wantE {
		t.Errorf("At(%s, %s): %s, %d, want %s, %d", brief(d), brief(path), brief(c), e, brief(want), wantE)
		return false
	}
	return true
}
