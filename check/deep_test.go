package check_test

import (
	"math"
	"slices"
	"strconv"
	"testing"

	"payoff/api"
	"payoff/check"
)

// deepest is how many parts may be nested in one another.
const deepest = 1 << 16

// nested puts a contract into another one again and again, at that child's place.
func nested(outer api.Con, kid int, inner api.Con, times int) api.Con {
	for range times {
		c := outer
		c.Kids = slices.Clone(outer.Kids)
		c.Kids[kid] = inner
		inner = c
	}
	return inner
}

func conOf(kind int, kids ...api.Con) api.Con { return api.Con{Kind: kind, Kids: kids} }

// outers: a contract of each kind that has kids, with the kid's number in whose place another goes.
func outers() map[string]struct {
	con api.Con
	kid int
} {
	truth, one := api.Expr{Op: api.XTrue}, api.Expr{Op: api.XNum, Num: 1}
	with := func(c api.Con, exprs ...api.Expr) api.Con {
		c.Exprs, c.Name = exprs, ""
		return c
	}
	let := with(conOf(api.CLet, zero()), one)
	let.Name = "a"
	loop := with(conOf(api.CFor, zero()))
	loop.Name, loop.Range = "a", days(0, 0, 1)
	accum := with(conOf(api.CAccum, zero()), one, one)
	accum.Name, accum.Loop, accum.Range = "a", "b", days(0, 0, 1)
	at := conOf(api.CAt, zero())
	at.Date = date(2024, 1, 1)
	type outer = struct {
		con api.Con
		kid int
	}
	return map[string]outer{
		"give": {conOf(api.CGive, zero()), 0}, "scale": {with(conOf(api.CScale, zero()), one), 0}, "delay": {conOf(api.CDelay, zero()), 0},
		"at": {at, 0}, "and left": {conOf(api.CAnd, zero(), zero()), 0}, "and right": {conOf(api.CAnd, zero(), zero()), 1},
		"if": {with(conOf(api.CIf, zero(), zero()), truth), 0}, "else": {with(conOf(api.CIf, zero(), zero()), truth), 1},
		"let": {let, 0}, "for": {loop, 0}, "accumulate": {accum, 0},
		"when": {with(conOf(api.CWhen, zero(), zero()), truth), 0}, "when not": {with(conOf(api.CWhen, zero(), zero()), truth), 1},
	}
}

// P812: contracts nested as deep as may be, with something wrong at their end or not.
func TestDeepContracts(t *testing.T) {
	t.Parallel()
	for name, outer := range outers() {
		path := []int{2}
		for range deepest - 3 {
			path = append(path, len(outer.con.Exprs)+outer.kid)
		}
		pay := api.Con{Kind: api.CPay, Cur: "EUR", Exprs: []api.Expr{{Op: api.XNum}}}
		good := contractOf(nested(outer.con, outer.kid, pay, deepest-3))
		m, e := check.Measure(good)
		depth := deepest - 1
		if name == "and left" {
			depth = 3
		}
		if e != api.OK || m.Depth != depth || m.Actions == 0 {
			t.Errorf("%s: %+v, %d", name, m, e)
		}
		if first, last, e := check.Days(good, path); first != 0 || last != 0 || e != api.OK {
			t.Errorf("%s: Days: %d, %d, %d", name, first, last, e)
		}
		wantDays(t, good, append(slices.Clone(path), 0), 0, 0, api.ErrRange)
		pay.Exprs[0] = api.Expr{Op: api.XTrue}
		if at, e := check.Check(good); e != api.ErrType || !slices.Equal(at, append(slices.Clone(path), 0)) {
			t.Errorf("%s: a path of %d, %d", name, len(at), e)
		}
	}
}

// P812: expressions nested as deep as may be.
func TestDeepExpressions(t *testing.T) {
	t.Parallel()
	for op, kids := range map[int]int{api.XNeg: 1, api.XNot: 1, api.XAdd: 2, api.XAnd: 2, api.XIf: 3, api.XRatio: 3, api.XCall: 2} {
		for at := range kids {
			leaf, other := api.Expr{Op: api.XNum}, api.Expr{Op: api.XTrue}
			if op == api.XNot || op == api.XAnd || op == api.XIf && at == 0 {
				leaf, other = other, leaf
			}
			for _, bottom := range []api.Expr{leaf, other} {
				e := bottom
				for range deepest - 3 {
					outer := api.Expr{Op: op, Kids: slices.Repeat([]api.Expr{leaf}, kids)}
					if op == api.XIf {
						outer.Kids[0] = api.Expr{Op: api.XTrue}
					}
					if op == api.XCall {
						outer.Name = "f"
					}
					outer.Kids[at] = e
					e = outer
				}
				d := contractOf(api.Con{Kind: api.CLet, Name: "a", Exprs: []api.Expr{e}, Kids: []api.Con{zero()}})
				d.Defs = []api.Def{{Name: "f", Params: []string{"a", "b"}, Body: api.Expr{Op: api.XName, Name: "b"}}}
				path, errno := check.Check(d)
				want := deepest - 1
				if bottom.Op == leaf.Op || op == api.XIf && at == 1 {
					want = 0
				}
				if op == api.XIf && at == 1 && bottom.Op != leaf.Op {
					want = deepest - 1 // the third kid beside the innermost one has another sort
				}
				if len(path) != want || errno == api.OK != (want == 0) {
					t.Errorf("operator %d, kid %d, over %d: a path of %d, %d", op, at, bottom.Op, len(path), errno)
				}
				d.Defs = append(d.Defs, api.Def{Name: "g", Body: e})
				if path, errno = check.Check(d); want > 0 && (errno != api.ErrType || len(path) != deepest || path[0] != 1) {
					t.Errorf("in a definition: operator %d, kid %d, over %d: a path of %d, %d", op, at, bottom.Op, len(path), errno)
				}
				if m, errno := check.Measure(d); want == 0 && (errno != api.OK || m.Depth != deepest-1) {
					t.Errorf("operator %d, kid %d: %+v, %d", op, at, m, errno)
				}
			}
		}
	}
}

// manyNames: names of small letters, or of capital ones, all unlike.
func manyNames(first string, count int) []string {
	var names []string
	for i := range count {
		names = append(names, first+strconv.Itoa(i))
	}
	return names
}

// added: the sum of some expressions, from the left on, as even as may be.
func added(exprs []api.Expr) api.Expr {
	if len(exprs) == 1 {
		return exprs[0]
	}
	half := len(exprs) / 2
	return api.Expr{Op: api.XAdd, Kids: []api.Expr{added(exprs[:half]), added(exprs[half:])}}
}

// P806, P812: many parameters, definitions and observables cost what their text costs.
func TestManyNames(t *testing.T) {
	t.Parallel()
	const many = 30000
	var exprs, observations, calls []api.Expr
	d := contractOf(zero())
	d.Names = manyNames("A", many)
	for i, name := range manyNames("x", many) {
		exprs = append(exprs, api.Expr{Op: api.XName, Name: name})
		observations = append(observations, api.Expr{Op: api.XObs, Name: d.Names[i]})
		d.Defs = append(d.Defs, api.Def{Name: name, Body: api.Expr{Op: api.XNum}})
		calls = append(calls, api.Expr{Op: api.XCall, Name: name})
	}
	d.Defs = append(d.Defs, api.Def{Name: "f", Params: manyNames("x", many), Body: added(exprs)})
	calls = append(calls, api.Expr{Op: api.XCall, Name: "f", Kids: observations})
	d.Body = api.Con{Kind: api.CPay, Cur: "EUR", Exprs: []api.Expr{added(calls)}}
	m, e := check.Measure(d)
	size := many + many + many + many - 1
	if e != api.OK || m.Nodes != size+2 || m.Names != many || m.Bytes != 1024+40*many+64*(size+2) {
		t.Errorf("%+v, %d", m, e)
	}
	d.Names = append(d.Names, "A0")
	if path, e := check.Check(d); e != api.ErrType || !slices.Equal(path, []int{0, many}) {
		t.Errorf("%v, %d", path, e)
	}
	d.Names = d.Names[:many]
	d.Defs = append(d.Defs, api.Def{Name: "x0", Body: api.Expr{Op: api.XNum}})
	if path, e := check.Check(d); e != api.ErrType || !slices.Equal(path, []int{1, many + 1}) {
		t.Errorf("%v, %d", path, e)
	}
	d.Defs = d.Defs[:many+1]
	d.Defs[many].Params = append(d.Defs[many].Params, "x0")
	if path, e := check.Check(d); e != api.ErrType || !slices.Equal(path, []int{1, many}) {
		t.Errorf("%v, %d", path, e)
	}
}

// P812: a name that is bound far outside is found there.
func TestManyScopes(t *testing.T) {
	const many = 5000
	c := api.Con{Kind: api.CPay, Cur: "EUR", Exprs: []api.Expr{added([]api.Expr{{Op: api.XName, Name: "first"}, {Op: api.XName, Name: "x0"}})}}
	for _, name := range manyNames("x", many) {
		value := api.Expr{Op: api.XNeg, Kids: []api.Expr{{Op: api.XName, Name: "first"}}}
		c = api.Con{Kind: api.CLet, Name: name, Exprs: []api.Expr{value}, Kids: []api.Con{c}}
	}
	c = api.Con{Kind: api.CLet, Name: "first", Exprs: []api.Expr{{Op: api.XDay}}, Kids: []api.Con{c}}
	m, e := check.Measure(contractOf(c))
	if e != api.OK || m.Nodes != 1+1+2+2 || m.Depth != many+4 {
		t.Errorf("%+v, %d", m, e)
	}
}

// P809: paths of all kinds of wrong numbers.
func TestDaysOfWrongPaths(t *testing.T) {
	d := deal(t, "observe A; def f(x) = x; contract when (A > 0) within 3 give pay(EUR, f(1)) else delay(2) zero;")
	for _, path := range [][]int{nil, {}, {0}, {0, 0}, {1}, {1, 0}, {1, 0, 0}, {3}, {-1}, {math.MinInt}, {math.MaxInt}, {0, 2}} {
		wantDays(t, d, path, 0, 0, api.ErrRange)
	}
	for _, child := range []int{-1, 0, 3, 4, math.MinInt, math.MinInt + 1, math.MaxInt} {
		wantDays(t, d, []int{2, child}, 0, 0, api.ErrRange)
		wantDays(t, d, []int{2, child, 0}, 0, 0, api.ErrRange)
		wantDays(t, d, []int{2, 1, 0, child}, 0, 0, api.ErrRange)
		wantDays(t, d, []int{2, 2, 0, child}, 0, 0, api.ErrRange)
	}
	wantDays(t, d, []int{2}, 0, 0, api.OK)
	wantDays(t, d, []int{2, 1}, 0, 3, api.OK)
	wantDays(t, d, []int{2, 1, 0}, 0, 3, api.OK)
	wantDays(t, d, []int{2, 2}, 3, 3, api.OK)
	wantDays(t, d, []int{2, 2, 0}, 5, 5, api.OK)
}
