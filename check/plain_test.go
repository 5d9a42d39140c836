package check_test

import (
	"maps"
	"math/big"
	"slices"

	"payoff/api"
	"payoff/cal"
	"payoff/tree"
)

// The chapter, read as plainly as can be: each question is asked anew of the tree, definitions are gone into at each call, and numbers have no end but the one that the chapter gives them.

// stop is where days and measures stop.
const stop = 1 << 30

func number(n int) *big.Int { return big.NewInt(int64(n)) }

// cut tells a number, or 2^30 if it is above that.
func cut(n *big.Int) int {
	if n.Cmp(number(stop)) > 0 {
		return stop
	}
	return int(n.Int64())
}

func sum(all ...*big.Int) *big.Int {
	total := new(big.Int)
	for _, n := range all {
		total.Add(total, n)
	}
	return total
}

func product(a, b *big.Int) *big.Int { return new(big.Int).Mul(a, b) }

// dayAnd: a day and so many more.
func dayAnd(day, more int) int { return cut(sum(number(day), number(more))) }

// plainDeal is a deal that is asked.
type plainDeal struct{ api.Deal }

func (d plainDeal) day(date api.Date) int {
	day, _ := cal.Day(date)
	start, _ := cal.Day(d.Start)
	return day - start
}

// lastOffset is the greatest of Lo, Lo + By, .. that is at most Hi; its number is counted from 1.
func lastOffset(r api.Range) (offset int, count *big.Int) {
	behind := new(big.Int).Div(new(big.Int).Sub(number(r.Hi), number(r.Lo)), number(r.By))
	return int(sum(number(r.Lo), product(behind, number(r.By))).Int64()), sum(behind, number(1))
}

// schedule: the days of a range of dates; none, if it does not fit.
func (d plainDeal) schedule(r api.Range, last int) []int {
	if d.day(r.From) > d.day(r.To) || d.day(r.To) > d.day(r.From)+3660 {
		return nil
	}
	days, e := cal.Schedule(r.From, r.To, r.Ten, r.Conv, d.Holidays)
	if e != api.OK {
		return nil
	}
	start, _ := cal.Day(d.Start)
	for i := range days {
		days[i] -= start
	}
	if days[0] < last {
		return nil
	}
	return days
}

func (d plainDeal) rangeFits(r api.Range, last int) bool {
	if r.Kind == api.RangeDays {
		return r.Lo <= r.Hi && r.By >= 1
	}
	return d.schedule(r, last) != nil
}

// rangeDays: the first and the last day of a range that fits, and their number.
func (d plainDeal) rangeDays(r api.Range, first, last int) (int, int, *big.Int) {
	if r.Kind == api.RangeDays {
		offset, count := lastOffset(r)
		return dayAnd(first, r.Lo), dayAnd(last, offset), count
	}
	days := d.schedule(r, last)
	return days[0], days[len(days)-1], number(len(days))
}

// kidDays is the table of FIRST and LAST.
func (d plainDeal) kidDays(c api.Con, kid, first, last int) (int, int) {
	switch c.Kind {
	case api.CDelay:
		return dayAnd(first, c.Num), dayAnd(last, c.Num)
	case api.CAt:
		return d.day(c.Date), d.day(c.Date)
	case api.CFor:
		from, to, _ := d.rangeDays(c.Range, first, last)
		return from, to
	case api.CAccum:
		_, to, _ := d.rangeDays(c.Range, first, last)
		if c.Range.Kind == api.RangeDays {
			offset, _ := lastOffset(c.Range)
			return dayAnd(first, offset), to
		}
		return to, to
	case api.CWhen:
		if kid == 0 {
			return first, dayAnd(last, c.Num)
		}
		return dayAnd(first, c.Num), dayAnd(last, c.Num)
	}
	return first, last
}

// The sorts, as words.
const (
	aNumber = "number"
	aTruth  = "truth"
	anySort = ""
)

// sorts is what is bound, with its sort.
type sorts map[string]string

func (s sorts) and(name, sort string) sorts {
	inner := maps.Clone(s)
	if inner == nil {
		inner = sorts{}
	}
	inner[name] = sort
	return inner
}

func (d plainDeal) definition(name string) int {
	return slices.IndexFunc(d.Defs, func(def api.Def) bool { return def.Name == name })
}

func (d plainDeal) reach(e api.Expr) int {
	reach := 0
	if e.Op == api.XObs {
		reach = cut(number(e.Num))
	}
	if e.Op == api.XCall {
		reach = d.reach(d.Defs[d.definition(e.Name)].Body)
	}
	for _, kid := range e.Kids {
		reach = max(reach, d.reach(kid))
	}
	return reach
}

func (d plainDeal) sortOf(e api.Expr, bound sorts) string {
	switch e.Op {
	case api.XTrue, api.XFalse, api.XNot, api.XAnd, api.XOr, api.XLt, api.XLe, api.XGt, api.XGe, api.XEq, api.XNe:
		return aTruth
	case api.XName:
		return bound[e.Name]
	case api.XIf:
		return d.sortOf(e.Kids[1], bound)
	case api.XCall:
		def := d.Defs[d.definition(e.Name)]
		return d.sortOf(def.Body, parameters(def))
	}
	return aNumber
}

func parameters(def api.Def) sorts {
	bound := sorts{}
	for _, name := range def.Params {
		bound[name] = aNumber
	}
	return bound
}

func under(path []int, child int) []int { return append(slices.Clone(path), child) }

// looking is how an expression is looked at: FIRST (none, if it is below 0), and how many definitions may be called.
type looking struct {
	bound sorts
	first int
	defs  int
}

func (l looking) reaches(days int) bool { return l.first < 0 || days <= l.first }

func (d plainDeal) ownRule(e api.Expr, l looking) bool {
	switch e.Op {
	case api.XName:
		return l.bound[e.Name] != anySort
	case api.XObs:
		return slices.Contains(d.Names, e.Name) && l.reaches(cut(number(e.Num)))
	case api.XCall:
		at := d.definition(e.Name)
		return at >= 0 && at < l.defs && len(d.Defs[at].Params) == len(e.Kids) && l.reaches(d.reach(d.Defs[at].Body))
	}
	return true
}

func (d plainDeal) wantedOf(e api.Expr, kid int, bound sorts) string {
	switch e.Op {
	case api.XNot, api.XAnd, api.XOr:
		return aTruth
	case api.XIf:
		switch kid {
		case 0:
			return aTruth
		case 1:
			return anySort
		}
		return d.sortOf(e.Kids[1], bound)
	}
	return aNumber
}

// misfit: the path of the first part of an expression that does not fit; none, if all do. wanted is the sort of the whole.
func (d plainDeal) misfit(e api.Expr, l looking, wanted string, path []int) []int {
	if !d.ownRule(e, l) {
		return path
	}
	for i, kid := range e.Kids {
		if at := d.misfit(kid, l, d.wantedOf(e, i, l.bound), under(path, i)); at != nil {
			return at
		}
	}
	if wanted != anySort && d.sortOf(e, l.bound) != wanted {
		return path
	}
	return nil
}

func (d plainDeal) conMisfit(c api.Con, bound sorts, first, last int, path []int) []int {
	if c.Kind == api.CAt && d.day(c.Date) < last {
		return path
	}
	if (c.Kind == api.CFor || c.Kind == api.CAccum) && !d.rangeFits(c.Range, last) {
		return path
	}
	for i, e := range c.Exprs {
		l, wanted := looking{bound, first, len(d.Defs)}, aNumber
		switch {
		case c.Kind == api.CIf || c.Kind == api.CWhen:
			wanted = aTruth
		case c.Kind == api.CLet:
			wanted = anySort
		case c.Kind == api.CAccum && i == 1:
			l.first, _, _ = d.rangeDays(c.Range, first, last)
			l.bound = bound.and(c.Name, aNumber).and(c.Loop, aNumber)
		}
		if at := d.misfit(e, l, wanted, under(path, i)); at != nil {
			return at
		}
	}
	inner := bound
	switch c.Kind {
	case api.CLet:
		inner = bound.and(c.Name, d.sortOf(c.Exprs[0], bound))
	case api.CFor, api.CAccum:
		inner = bound.and(c.Name, aNumber)
	}
	for i, kid := range c.Kids {
		from, to := d.kidDays(c, i, first, last)
		if at := d.conMisfit(kid, inner, from, to, under(path, len(c.Exprs)+i)); at != nil {
			return at
		}
	}
	return nil
}

// plainCheck is P801.
func plainCheck(deal api.Deal) ([]int, api.Errno) {
	if tree.Valid(deal) != api.OK {
		return nil, api.ErrArg
	}
	if at := (plainDeal{deal}).firstMisfit(); at != nil {
		return at, api.ErrType
	}
	return nil, api.OK
}

func (d plainDeal) firstMisfit() []int {
	for i, name := range d.Names {
		if slices.Contains(d.Names[:i], name) {
			return []int{0, i}
		}
	}
	for i, def := range d.Defs {
		if d.definition(def.Name) < i || len(parameters(def)) < len(def.Params) {
			return []int{1, i}
		}
		if at := d.misfit(def.Body, looking{parameters(def), -1, i}, anySort, []int{1, i, 0}); at != nil {
			return at
		}
	}
	return d.conMisfit(d.Body, nil, 0, 0, []int{2})
}

// sizes is what is bound, with its size.
type sizes map[string]*big.Int

func (s sizes) and(name string, size *big.Int) sizes {
	inner := maps.Clone(s)
	if inner == nil {
		inner = sizes{}
	}
	inner[name] = size
	return inner
}

// size is P806.
func (d plainDeal) size(e api.Expr, bound sizes) *big.Int {
	switch e.Op {
	case api.XName:
		return bound[e.Name]
	case api.XCall:
		def := d.Defs[d.definition(e.Name)]
		arguments := sizes{}
		for i, name := range def.Params {
			arguments[name] = d.size(e.Kids[i], bound)
		}
		return d.size(def.Body, arguments)
	}
	size := number(1)
	for _, kid := range e.Kids {
		size = sum(size, d.size(kid, bound))
	}
	return size
}

func (d plainDeal) depth(e api.Expr) int {
	deepest := 0
	if e.Op == api.XCall {
		deepest = d.depth(d.Defs[d.definition(e.Name)].Body)
	}
	for _, kid := range e.Kids {
		deepest = max(deepest, d.depth(kid))
	}
	return 1 + deepest
}

func (d plainDeal) conDepth(c api.Con) int {
	depth := 1
	for _, e := range c.Exprs {
		depth = max(depth, 1+d.depth(e))
	}
	for i, kid := range c.Kids {
		if c.Kind == api.CAnd && i == 0 && kid.Kind == api.CAnd {
			depth = max(depth, d.conDepth(kid))
		} else {
			depth = max(depth, 1+d.conDepth(kid))
		}
	}
	return depth
}

func (d plainDeal) horizon(c api.Con, first, last int) int {
	horizon := 0
	switch c.Kind {
	case api.CPay:
		horizon = last
	case api.CAccum:
		_, to, _ := d.rangeDays(c.Range, first, last)
		horizon = max(to, last)
	case api.CWhen:
		horizon = dayAnd(last, c.Num)
	}
	for i, kid := range c.Kids {
		from, to := d.kidDays(c, i, first, last)
		horizon = max(horizon, d.horizon(kid, from, to))
	}
	return horizon
}

// tally is what P807 counts.
type tally struct{ actions, nodes, cells *big.Int }

func (t *tally) add(other tally, times *big.Int) {
	t.actions = sum(t.actions, product(times, other.actions))
	t.nodes = sum(t.nodes, product(times, other.nodes))
	t.cells = sum(t.cells, product(times, other.cells))
}

func actions(count, nodes *big.Int) tally { return tally{count, product(count, nodes), number(0)} }

// tally is P807's table.
func (d plainDeal) tally(c api.Con, wt, wa *big.Int, bound sizes, first, last int) tally {
	one, two := number(1), number(2)
	t := tally{number(0), number(0), number(0)}
	kid := func(i int, wt, wa *big.Int, bound sizes) tally {
		from, to := d.kidDays(c, i, first, last)
		return d.tally(c.Kids[i], wt, wa, bound, from, to)
	}
	switch c.Kind {
	case api.CPay:
		t.add(actions(one, sum(wa, d.size(c.Exprs[0], bound), two)), one)
	case api.CGive:
		t.add(kid(0, wt, sum(wa, one), bound), one)
	case api.CScale:
		t.add(kid(0, wt, sum(wa, one, d.size(c.Exprs[0], bound)), bound), one)
	case api.CDelay, api.CAt:
		t.add(kid(0, wt, wa, bound), one)
	case api.CAnd:
		t.add(kid(0, wt, wa, bound), one)
		t.add(kid(1, wt, wa, bound), one)
	case api.CLet:
		t.add(kid(0, wt, wa, bound.and(c.Name, d.size(c.Exprs[0], bound))), one)
	case api.CIf:
		more := sum(one, d.size(c.Exprs[0], bound))
		t.add(kid(0, sum(wt, more), sum(wa, more), bound), one)
		t.add(kid(1, sum(wt, more), sum(wa, more), bound), one)
	case api.CFor:
		_, _, count := d.rangeDays(c.Range, first, last)
		t.add(kid(0, wt, wa, bound.and(c.Name, one)), count)
	case api.CAccum:
		_, _, count := d.rangeDays(c.Range, first, last)
		t.cells = one
		t.add(actions(one, sum(wt, d.size(c.Exprs[0], bound), two)), one)
		t.add(actions(one, sum(wt, d.size(c.Exprs[1], bound.and(c.Name, one).and(c.Loop, one)), two)), count)
		t.add(kid(0, wt, wa, bound.and(c.Name, one)), one)
	case api.CWhen:
		count, four := sum(number(c.Num), one), number(4)
		t.cells = one
		t.add(actions(count, sum(wt, d.size(c.Exprs[0], bound), number(10))), one)
		t.add(kid(0, sum(wt, four), sum(wa, four), bound), count)
		t.add(kid(1, sum(wt, four), sum(wa, four), bound), one)
	}
	return t
}

// plainMeasure is P805 to P807.
func plainMeasure(deal api.Deal) (api.Measure, api.Errno) {
	if _, e := plainCheck(deal); e != api.OK {
		return api.Measure{}, e
	}
	d := plainDeal{deal}
	t := d.tally(d.Body, number(0), number(0), nil, 0, 0)
	bytes := sum(number(1024), number(40*len(d.Names)), product(number(64), t.nodes))
	return api.Measure{
		Depth: d.conDepth(d.Body), Horizon: d.horizon(d.Body, 0, 0), Actions: cut(t.actions), Nodes: cut(t.nodes),
		Cells: cut(t.cells), Names: len(d.Names), Bytes: cut(bytes),
	}, api.OK
}

// eachCon calls f with the path, FIRST and LAST of each contract of a deal that fits.
func (d plainDeal) eachCon(f func(path []int, first, last int)) {
	var walk func(c api.Con, path []int, first, last int)
	walk = func(c api.Con, path []int, first, last int) {
		f(path, first, last)
		for i, kid := range c.Kids {
			from, to := d.kidDays(c, i, first, last)
			walk(kid, under(path, len(c.Exprs)+i), from, to)
		}
	}
	walk(d.Body, []int{2}, 0, 0)
}

// isRange: whether a range is one of a right deal, as P810 lists it.
func isRange(r api.Range) bool {
	switch r.Kind {
	case api.RangeDays:
		return r.Lo >= 0 && r.Hi >= 0 && r.By >= 0 &&
			r.From == api.Date{} && r.To == api.Date{} && r.Ten == api.Tenor{} && r.Conv == 0
	case api.RangeDates:
		_, e := cal.Day(r.From)
		_, f := cal.Day(r.To)
		return e == api.OK && f == api.OK && r.Ten.N >= 1 && r.Ten.N <= 999 && r.Ten.Unit >= 1 && r.Ten.Unit <= 4 &&
			r.Conv >= 0 && r.Conv <= 3 && r.Lo == 0 && r.Hi == 0 && r.By == 0
	}
	return false
}

// plainOffsets is P810.
func plainOffsets(deal api.Deal, r api.Range, day int) ([]int, api.Errno) {
	d := plainDeal{deal}
	switch {
	case tree.Valid(deal) != api.OK || day < 0 || day > stop || !isRange(r):
		return nil, api.ErrArg
	case !d.rangeFits(r, day):
		return nil, api.ErrType
	}
	if _, _, count := d.rangeDays(r, day, day); count.Cmp(number(3661)) > 0 {
		return nil, api.ErrLong
	}
	var offsets []int
	if r.Kind == api.RangeDates {
		for _, n := range d.schedule(r, day) {
			offsets = append(offsets, n-day)
		}
		return offsets, api.OK
	}
	for n := number(r.Lo); n.Cmp(number(r.Hi)) <= 0; n = sum(n, number(r.By)) {
		offsets = append(offsets, int(n.Int64()))
	}
	return offsets, api.OK
}
