package tree_test

import (
	"math"
	"math/rand"
	"reflect"
	"slices"
	"strings"
	"testing"

	"payoff/api"
	"payoff/tree"
)

// maker makes valid trees by chance.
type maker struct{ *rand.Rand }

func pick[T any](m maker, list ...T) T { return list[m.Intn(len(list))] }

func (m maker) number() int { return pick(m, 0, 1, 2, 7, 10, 1999, math.MaxInt) }

func (m maker) small() string {
	return pick(m, "a", "b1", "x_", "deals", "half_down", strings.Repeat("w", 31))
}

func (m maker) capital() string { return pick(m, "S", "EUR", "A_1", strings.Repeat("W", 31)) }

func (m maker) date() api.Date {
	return date(1900+m.Intn(300), 1+m.Intn(12), 1+m.Intn(28))
}

func some[T any](m maker, most int, item func() T) []T {
	var items []T
	for range m.Intn(most + 1) {
		items = append(items, item())
	}
	return items
}

func (m maker) exprs(count, depth int) []api.Expr {
	var exprs []api.Expr
	for range count {
		exprs = append(exprs, m.expr(depth))
	}
	return exprs
}

func (m maker) expr(depth int) api.Expr {
	e := api.Expr{Op: 1 + m.Intn(api.XCall)}
	if depth == 0 {
		e.Op = 1 + m.Intn(api.XThird)
	}
	switch e.Op {
	case api.XNum:
		e.Num = m.number()
	case api.XName:
		e.Name = m.small()
	case api.XObs:
		e.Name, e.Num = m.capital(), m.number()
	case api.XDate:
		e.Dates = []api.Date{m.date()}
	case api.XThird:
		e.Dates = []api.Date{m.date(), m.date()}
	case api.XNeg, api.XNot, api.XAbs:
		e.Kids = m.exprs(1, depth-1)
	case api.XIf:
		e.Kids = m.exprs(3, depth-1)
	case api.XRatio:
		e.Num, e.Kids = m.Intn(5), m.exprs(3, depth-1)
	case api.XCall:
		e.Name, e.Kids = m.small(), m.exprs(m.Intn(4), depth-1)
	case api.XTrue, api.XFalse, api.XDay:
	default:
		e.Kids = m.exprs(2, depth-1)
	}
	return e
}

func (m maker) days() api.Range {
	if m.Intn(2) == 0 {
		return api.Range{Kind: api.RangeDays, Lo: m.number(), Hi: m.number(), By: 1 + m.Intn(3)}
	}
	tenor := api.Tenor{N: pick(m, 1, 3, 999), Unit: 1 + m.Intn(4)}
	return api.Range{Kind: api.RangeDates, From: m.date(), To: m.date(), Ten: tenor, Conv: m.Intn(4)}
}

func (m maker) con(depth int) api.Con {
	c := api.Con{Kind: pick(m, api.CZero, api.CPay)}
	exprs, kids := 0, 0
	if depth > 0 {
		c.Kind = pick(m, api.CAnd, 1+m.Intn(api.CWhen))
		kids = 1
	}
	switch c.Kind {
	case api.CZero:
		kids = 0
	case api.CPay:
		c.Cur, exprs, kids = pick(m, "EUR", "ZZZ"), 1, 0
	case api.CScale:
		exprs = 1
	case api.CDelay:
		c.Num = m.number()
	case api.CAt:
		c.Date = m.date()
	case api.CAnd:
		kids = 2
	case api.CIf:
		exprs, kids = 1, 2
	case api.CLet:
		c.Name, exprs = m.small(), 1
	case api.CFor:
		c.Name, c.Range = m.small(), m.days()
	case api.CAccum:
		c.Name, c.Loop, c.Range, exprs = m.small(), m.small(), m.days(), 2
	case api.CWhen:
		c.Num, exprs, kids = m.number(), 1, 2
	}
	c.Exprs = m.exprs(exprs, 2)
	for range kids {
		c.Kids = append(c.Kids, m.con(depth-1))
	}
	return c
}

func (m maker) deal() api.Deal {
	return api.Deal{
		Name: m.small(), Start: m.date(), Holidays: some(m, 3, m.date), Names: some(m, 3, m.capital),
		Defs: some(m, 2, func() api.Def { return api.Def{Name: m.small(), Params: some(m, 3, m.small), Body: m.expr(3)} }),
		Body: m.con(m.Intn(5)),
	}
}

// holdDeal holds Valid and Print at any deal, and what Parse makes of its text. A deal is valid just if there is a text of which it is the tree; if there is one, then that with all parts in parentheses and braces is one.
func holdDeal(t *testing.T, d api.Deal) bool {
	t.Helper()
	read, _, e := tree.Parse(teller{all: true}.deal(d))
	if e != api.OK || !same(read, d) {
		return wantInvalid(t, d)
	}
	if e := tree.Valid(d); e != api.OK {
		t.Errorf("Valid(%s): %d", brief(d), e)
		return false
	}
	text := teller{}.deal(d)
	return wantPrint(t, d, text) && wantParse(t, text, &d, 0)
}

func holdExpr(t *testing.T, x api.Expr) bool {
	t.Helper()
	read, _, e := tree.ParseExpr(teller{all: true}.expr(x, 1))
	if e != api.OK || !same(read, x) {
		return wantInvalidExpr(t, x)
	}
	text := teller{}.expr(x, 1)
	return wantPrintExpr(t, x, text) && wantParseExpr(t, text, &x, 0)
}

// P703, P704, P706
func TestDealsByChance(t *testing.T) {
	m := maker{rand.New(rand.NewSource(71))}
	valid := 0
	for range 5000 {
		d := m.deal()
		if !holdDeal(t, d) {
			return
		}
		if tree.Valid(d) == api.OK {
			valid++
		}
	}
	if valid != 5000 {
		t.Errorf("%d deals are valid", valid)
	}
}

// P705, P706
func TestExprsByChance(t *testing.T) {
	m := maker{rand.New(rand.NewSource(72))}
	for range 20000 {
		if !holdExpr(t, m.expr(m.Intn(6))) {
			return
		}
	}
}

// exprsOver makes an expression of each operator, over all choices of kids.
func exprsOver(kids []api.Expr, f func(api.Expr) bool) bool {
	for op := api.XNeg; op <= api.XAbs; op++ {
		count := 2
		switch op {
		case api.XNeg, api.XNot, api.XAbs:
			count = 1
		case api.XIf:
			count = 3
		}
		chosen := make([]api.Expr, count)
		var choose func(at int) bool
		choose = func(at int) bool {
			if at == count {
				return f(api.Expr{Op: op, Kids: slices.Clone(chosen)})
			}
			for _, kid := range kids {
				if chosen[at] = kid; !choose(at + 1) {
					return false
				}
			}
			return true
		}
		if !choose(0) {
			return false
		}
	}
	return true
}

// P704, P705, P706: each operator within each other, at each place.
func TestParenthesesOfAllPairs(t *testing.T) {
	t.Parallel()
	leaves := []api.Expr{name("a"), num(1), {Op: api.XCall, Name: "f"}}
	small := slices.Clone(leaves[:1])
	exprsOver(leaves[:1], func(e api.Expr) bool {
		small = append(small, e)
		return true
	})
	if len(small) < 18 {
		t.Fatal(len(small))
	}
	exprsOver(small, func(e api.Expr) bool { return holdExpr(t, e) && holdNeeded(t, e) })
	exprsOver(leaves, func(e api.Expr) bool { return holdExpr(t, e) })
}

// holdNeeded: without any one pair of its parentheses an expression's text is no text of it.
func holdNeeded(t *testing.T, e api.Expr) bool {
	t.Helper()
	text, _ := tree.PrintExpr(e)
	ts := scan(text)
	for i, token := range ts {
		if token.Text != "(" || i > 0 && ts[i-1].Kind == api.TokWord {
			continue
		}
		close := i + find(ts[i:], ")")
		without := text[:token.At] + text[token.At+1:ts[close].At] + text[ts[close].At+1:]
		if other, _, err := tree.ParseExpr(without); err == api.OK && same(other, e) {
			t.Errorf("%q can do without the parenthesis at %d", text, token.At)
			return false
		}
	}
	return true
}

// P704, P706: ands within each contract, at each place, to a depth of three.
func TestBracesOfAllShapes(t *testing.T) {
	t.Parallel()
	shapes := []api.Con{zero()}
	for range 3 {
		var over []api.Con
		for _, a := range shapes {
			over = append(over, con(api.CGive, a))
			for _, b := range shapes {
				choice := con(api.CIf, a, b)
				choice.Exprs = []api.Expr{num(1)}
				over = append(over, con(api.CAnd, a, b), choice)
			}
		}
		shapes = append(shapes, over...)
	}
	for _, c := range shapes {
		if !holdDeal(t, dealOf(c)) || !holdDeal(t, dealOf(con(api.CAnd, c, zero()))) || !holdDeal(t, dealOf(con(api.CGive, c))) {
			return
		}
		text, _ := tree.Print(dealOf(c))
		ts := scan(text)
		for i := 6; i < len(ts); i++ {
			if ts[i].Text != "{" {
				continue
			}
			close := i + find(ts[i:], "}")
			without := text[:ts[i].At] + text[ts[i].At+1:ts[close].At] + text[ts[close].At+1:]
			if other, _, e := tree.Parse(without); e == api.OK && same(other, dealOf(c)) {
				t.Errorf("%q can do without the brace at %d", text, ts[i].At)
				return
			}
		}
	}
}

var (
	otherInts  = []int{-1, 0, 1, 2, 3, 4, 5, 12, 13, 29, 30, 31, 999, 1000, 2199, 2200, math.MaxInt, math.MinInt}
	otherTexts = []string{"", "a", "A", "x_1", "deal", "min", "EUR", "eur", "EURO", "EU1", "EU", "a b", "a\n", " a", "A-", "_", "1", "\xff", strings.Repeat("a", 31), strings.Repeat("a", 32), strings.Repeat("A", 31), strings.Repeat("A", 32)}
)

// eachChange calls f with each number, text and list in a value changed, one at a time.
func eachChange(v reflect.Value, f func() bool) bool {
	before := reflect.New(v.Type()).Elem()
	before.Set(v)
	try := func(other reflect.Value) bool {
		v.Set(other)
		content := f()
		v.Set(before)
		return content
	}
	switch v.Kind() {
	case reflect.Int:
		return !slices.ContainsFunc(otherInts, func(n int) bool { return !try(reflect.ValueOf(n)) })
	case reflect.String:
		return !slices.ContainsFunc(otherTexts, func(s string) bool { return !try(reflect.ValueOf(s)) })
	case reflect.Struct:
		for i := range v.NumField() {
			if !eachChange(v.Field(i), f) {
				return false
			}
		}
	case reflect.Slice:
		if !try(reflect.Append(v, reflect.Zero(v.Type().Elem()))) || !try(reflect.Zero(v.Type())) {
			return false
		}
		for i := range v.Len() {
			twice := reflect.AppendSlice(reflect.AppendSlice(v.Slice3(0, i, i), v.Slice(i, i+1)), v.Slice(i, v.Len()))
			less := reflect.AppendSlice(v.Slice3(0, i, i), v.Slice(i+1, v.Len()))
			if !try(twice) || !try(less) || !eachChange(v.Index(i), f) {
				return false
			}
		}
	}
	return true
}

// P703, P704, P707: each field of a deal changed.
func TestChangedDeals(t *testing.T) {
	t.Parallel()
	d, original := plainDeal(scan(wholeDeal)), plainDeal(scan(wholeDeal))
	valid, count := 0, 0
	eachChange(reflect.ValueOf(&d).Elem(), func() bool {
		count++
		if tree.Valid(d) == api.OK {
			valid++
		}
		return holdDeal(t, d) && holdEqual(t, d, original)
	})
	if valid == 0 || valid == count || !holdDeal(t, d) {
		t.Errorf("%d of %d are valid", valid, count)
	}
}

func holdEqual(t *testing.T, a, b api.Deal) bool {
	t.Helper()
	want := same(a, b)
	if tree.Equal(a, b) != want || tree.Equal(b, a) != want {
		t.Errorf("Equal(%s, %s): %v", brief(a), brief(b), !want)
		return false
	}
	return true
}

// P705: each field of each operator's expression changed.
func TestChangedExprs(t *testing.T) {
	m := maker{rand.New(rand.NewSource(73))}
	for range 60 {
		e := m.expr(2)
		if !eachChange(reflect.ValueOf(&e).Elem(), func() bool { return holdExpr(t, e) }) {
			return
		}
	}
	for op := -1; op <= api.XCell+1; op++ {
		for kids := range 5 {
			for dates := range 4 {
				for _, s := range otherTexts {
					for _, n := range []int{-1, 0, 1, 4, 5} {
						e := api.Expr{Op: op, Num: n, Name: s, Kids: m.exprs(kids, 0)}
						for range dates {
							e.Dates = append(e.Dates, m.date())
						}
						if !holdExpr(t, e) {
							return
						}
					}
				}
			}
		}
	}
}

// P707: trees of the same parts in another order, or under another root, are not the same.
func TestEqualOfOtherShapes(t *testing.T) {
	a, b := name("a"), name("b")
	exprs := []api.Expr{
		{}, a, x(api.XAdd, a, b), x(api.XAdd, b, a), x(api.XAdd, a, a), x(api.XAdd, x(api.XAdd, a, b), a), x(api.XAdd, a, x(api.XAdd, b, a)), x(api.XAdd, a, x(api.XAdd, a, b)),
		x(0, x(0), x(0)), x(0, x(0, x(0))), x(0, x(0)), x(0, x(0, x(0)), x(0)), x(0, x(0), x(0, x(0))), x(0, x(0), x(0), x(0)), x(0, x(0, x(0), x(0))), x(0, x(0, x(0, x(0)))),
		{Dates: []api.Date{{}}}, {Dates: []api.Date{{}, {}}}, {Name: "\x00"},
	}
	var deals []api.Deal
	for _, e := range exprs {
		deals = append(deals, api.Deal{Body: api.Con{Exprs: []api.Expr{e}}}, api.Deal{Body: api.Con{Exprs: []api.Expr{e, {}}}}, api.Deal{Body: api.Con{Exprs: []api.Expr{{}, e}}}, api.Deal{Defs: []api.Def{{Body: e}}}, api.Deal{Body: con(0, api.Con{Exprs: []api.Expr{e}})})
	}
	z := api.Con{}
	for _, c := range []api.Con{con(0, z), con(0, z, z), con(0, con(0, z)), con(0, con(0, z), z), con(0, z, con(0, z)), con(0, z, z, z), con(0, con(0, z, z)), con(7, zero(), con(7, zero(), pay(1))), con(7, con(7, zero(), pay(1)), zero()), con(7, con(7, zero(), zero()), pay(1))} {
		deals = append(deals, api.Deal{Body: c})
	}
	deals = append(deals, api.Deal{Names: []string{"ab"}}, api.Deal{Names: []string{"a", "b"}}, api.Deal{Names: []string{""}}, api.Deal{Holidays: []api.Date{{}}}, api.Deal{Defs: []api.Def{{}, {}}}, api.Deal{Defs: []api.Def{{Params: []string{""}}}})
	for _, d := range deals {
		for _, other := range deals {
			if !holdEqual(t, d, other) {
				return
			}
		}
	}
	empty := api.Deal{Holidays: []api.Date{}, Names: []string{}, Defs: []api.Def{}, Body: api.Con{Exprs: []api.Expr{}, Kids: []api.Con{}}}
	if !tree.Equal(empty, api.Deal{}) || !tree.Equal(api.Deal{}, empty) {
		t.Error("nil and empty lists are not the same")
	}
	withLists, without := dealOf(pay(1)), dealOf(pay(1))
	withLists.Body.Kids, withLists.Body.Exprs[0].Kids, withLists.Body.Exprs[0].Dates = []api.Con{}, []api.Expr{}, []api.Date{}
	if !tree.Equal(withLists, without) || tree.Valid(withLists) != api.OK || !holdDeal(t, withLists) {
		t.Error("nil and empty lists are not the same")
	}
}

// P708: each contract of a deal, valid or not, and all numbers that lead nowhere.
func TestAtOfAllPaths(t *testing.T) {
	m := maker{rand.New(rand.NewSource(74))}
	for round := range 300 {
		d := m.deal()
		if round%3 == 0 {
			d.Body = con(99, d.Body, api.Con{Exprs: []api.Expr{num(-1), {Op: 77, Kids: []api.Expr{{}}}}, Kids: []api.Con{{}, {Kind: -1, Name: "?"}}}, api.Con{})
			d.Body.Exprs = []api.Expr{{}}
		}
		holdPaths(t, d, nil, d.Body)
	}
}

func holdPaths(t *testing.T, d api.Deal, path []int, c api.Con) {
	t.Helper()
	wantAt(t, d, path, c, api.OK)
	exprs, all := len(c.Exprs), len(c.Exprs)+len(c.Kids)
	for _, child := range slices.Concat(otherInts, []int{-2, -exprs, -all, exprs - 1, all, all + 1, all - 1 + math.MinInt}) {
		if child < exprs || child >= all {
			wantAt(t, d, append(slices.Clone(path), child), api.Con{}, api.ErrRange)
			wantAt(t, d, append(slices.Clone(path), child, 0), api.Con{}, api.ErrRange)
			wantAt(t, d, append(slices.Clone(path), child, exprs), api.Con{}, api.ErrRange)
		}
	}
	for i, kid := range c.Kids {
		holdPaths(t, d, append(slices.Clone(path), exprs+i), kid)
	}
}
