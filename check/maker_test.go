package check_test

import (
	"math"
	"math/rand"
	"slices"

	"payoff/api"
	"payoff/cal"
)

// maker makes deals by chance that fit, but where it errs.
type maker struct {
	*rand.Rand
	plainDeal     // what is made so far: the start, the observables, the definitions
	errs      int // it errs once in so many choices; 0: never
	huge      bool
}

func pick[T any](m *maker, list ...T) T { return list[m.Intn(len(list))] }

func (m *maker) err() bool { return m.errs > 0 && m.Intn(m.errs) == 0 }

func (m *maker) small() string { return pick(m, "a", "b", "c", "d") }

// days: a small number of days, or any, if the deal may be huge.
func (m *maker) days(most int) int {
	if m.huge && m.Intn(3) == 0 {
		return pick(m, stop-2, stop-1, stop, stop+1, stop/2, 1<<40, math.MaxInt-1, math.MaxInt)
	}
	return m.Intn(most + 1)
}

// dateOf: the date of a day, or one of the calendar's ends.
func (m *maker) dateOf(day int) api.Date {
	start, _ := cal.Day(m.Start)
	date, e := cal.Date(start + day)
	if e != api.OK {
		return pick(m, api.Date{Y: 2199, M: 12, D: 31}, api.Date{Y: 1900, M: 1, D: 1})
	}
	return date
}

// scope is what is bound where the maker is, and FIRST and LAST there.
type scope struct {
	bound       sorts
	first, last int
	defs        int
}

// named: the names that are bound with that sort.
func (s scope) named(sort string) []string {
	var names []string
	for name, own := range s.bound {
		if own == sort {
			names = append(names, name)
		}
	}
	slices.Sort(names) // a map's own order is not the same each time
	return names
}

func (m *maker) expr(sort string, s scope, depth int) api.Expr {
	if m.err() {
		sort = pick(m, aNumber, aTruth)
	}
	if m.err() {
		return api.Expr{Op: api.XName, Name: m.small()}
	}
	if names := s.named(sort); len(names) > 0 && m.Intn(3) == 0 {
		return api.Expr{Op: api.XName, Name: pick(m, names...)}
	}
	if depth > 0 && m.Intn(4) == 0 {
		if e, ok := m.call(sort, s, depth); ok {
			return e
		}
	}
	if depth > 0 && m.Intn(6) == 0 {
		return api.Expr{Op: api.XIf, Kids: []api.Expr{m.expr(aTruth, s, depth-1), m.expr(sort, s, depth-1), m.expr(sort, s, depth-1)}}
	}
	if sort == aTruth {
		return m.truth(s, depth)
	}
	return m.number(s, depth)
}

// call: a call of a definition of that sort that does not reach too far, if there is one.
func (m *maker) call(sort string, s scope, depth int) (api.Expr, bool) {
	var fits []api.Def
	for _, def := range m.Defs[:s.defs] {
		if m.err() || m.sortOf(def.Body, parameters(def)) == sort && m.reach(def.Body) <= s.first {
			fits = append(fits, def)
		}
	}
	if len(fits) == 0 {
		return api.Expr{}, false
	}
	def := pick(m, fits...)
	e := api.Expr{Op: api.XCall, Name: def.Name}
	for range def.Params {
		e.Kids = append(e.Kids, m.expr(aNumber, s, depth-1))
	}
	if m.err() {
		e.Kids = append(e.Kids, m.expr(aNumber, s, 0))
	}
	if m.err() {
		e.Name = pick(m, "f", "g", "h", "a")
	}
	return e, true
}

func (m *maker) exprs(count int, sort string, s scope, depth int) []api.Expr {
	var exprs []api.Expr
	for range count {
		exprs = append(exprs, m.expr(sort, s, depth))
	}
	return exprs
}

func (m *maker) truth(s scope, depth int) api.Expr {
	if depth == 0 {
		return api.Expr{Op: pick(m, api.XTrue, api.XFalse)}
	}
	switch op := pick(m, api.XNot, api.XAnd, api.XOr, api.XLt, api.XLe, api.XGt, api.XGe, api.XEq, api.XNe); op {
	case api.XNot:
		return api.Expr{Op: op, Kids: m.exprs(1, aTruth, s, depth-1)}
	case api.XAnd, api.XOr:
		return api.Expr{Op: op, Kids: m.exprs(2, aTruth, s, depth-1)}
	default:
		return api.Expr{Op: op, Kids: m.exprs(2, aNumber, s, depth-1)}
	}
}

func (m *maker) number(s scope, depth int) api.Expr {
	if depth == 0 || m.Intn(3) == 0 {
		return m.leaf(s)
	}
	switch op := pick(m, api.XNeg, api.XAbs, api.XRatio, api.XAdd, api.XSub, api.XMul, api.XDiv, api.XMod, api.XMin, api.XMax); op {
	case api.XNeg, api.XAbs:
		return api.Expr{Op: op, Kids: m.exprs(1, aNumber, s, depth-1)}
	case api.XRatio:
		return api.Expr{Op: op, Num: m.Intn(5), Kids: m.exprs(3, aNumber, s, depth-1)}
	default:
		return api.Expr{Op: op, Kids: m.exprs(2, aNumber, s, depth-1)}
	}
}

func (m *maker) leaf(s scope) api.Expr {
	switch m.Intn(6) {
	case 0:
		return api.Expr{Op: api.XDay}
	case 1:
		return api.Expr{Op: api.XDate, Dates: []api.Date{m.dateOf(m.Intn(99))}}
	case 2:
		return api.Expr{Op: api.XThird, Dates: []api.Date{m.dateOf(m.Intn(99)), m.dateOf(m.Intn(99))}}
	case 3, 4:
		if len(m.Names) == 0 && !m.err() {
			break
		}
		back := m.days(3)
		if cut(number(back)) > s.first && !m.err() {
			back = s.first
		}
		return api.Expr{Op: api.XObs, Name: pick(m, append(slices.Clone(m.Names), "A")...), Num: back}
	}
	return api.Expr{Op: api.XNum, Num: m.Intn(9)}
}

// span: a range that fits a loop in that scope, but where the maker errs.
func (m *maker) span(first, last int) api.Range {
	if m.Intn(2) == 0 || last > 5000 {
		lo := m.days(4)
		r := api.Range{Kind: api.RangeDays, Lo: lo, Hi: max(lo, m.days(9)), By: 1 + m.Intn(3)}
		if m.huge && m.Intn(4) == 0 {
			r.By = pick(m, stop-1, stop, math.MaxInt)
		}
		if m.err() {
			r.Lo, r.Hi = r.Hi+1-m.Intn(2), r.Lo
		}
		return r
	}
	from := last + m.Intn(5)
	if m.err() {
		from = first + m.Intn(last-first+1) - m.Intn(3)
	}
	to := from + m.Intn(60)
	if m.err() {
		to = from + pick(m, -1, 3659, 3660, 3661, -40)
	}
	tenor := api.Tenor{N: 1 + m.Intn(40), Unit: 1 + m.Intn(4)}
	return api.Range{Kind: api.RangeDates, From: m.dateOf(from), To: m.dateOf(to), Ten: tenor, Conv: m.Intn(4)}
}

// fitting: a range by chance, or, if it does not fit and the maker does not err, one that does.
func (m *maker) fitting(s scope) api.Range {
	r := m.span(s.first, s.last)
	if !m.rangeFits(r, s.last) && m.errs == 0 {
		return api.Range{Kind: api.RangeDays, Lo: m.Intn(2), Hi: 2 + m.Intn(4), By: 1 + m.Intn(2)}
	}
	return r
}

func (m *maker) con(s scope, depth int) api.Con {
	c := api.Con{Kind: pick(m, api.CPay, api.CPay, api.CPay, api.CZero)}
	if depth > 0 {
		c.Kind = pick(m, api.CAnd, api.CPay+m.Intn(api.CWhen-api.CPay+1))
	}
	kids := 1
	switch c.Kind {
	case api.CZero:
		kids = 0
	case api.CPay:
		c.Cur, c.Exprs, kids = "EUR", m.exprs(1, aNumber, s, 2), 0
	case api.CScale:
		c.Exprs = m.exprs(1, aNumber, s, 2)
	case api.CDelay:
		c.Num = m.days(3)
	case api.CAt:
		c.Date = m.dateOf(s.last + m.Intn(5))
		if m.err() {
			c.Date = m.dateOf(s.last - m.Intn(5))
		}
		if m.day(c.Date) < s.last && m.errs == 0 {
			return m.con(s, depth-1)
		}
	case api.CAnd:
		kids = 2
	case api.CIf:
		c.Exprs, kids = m.exprs(1, aTruth, s, 2), 2
	case api.CLet:
		c.Name, c.Exprs = m.small(), m.exprs(1, pick(m, aNumber, aTruth), s, 2)
	case api.CFor:
		c.Name, c.Range = m.small(), m.fitting(s)
	case api.CAccum:
		m.accumulation(&c, s)
	case api.CWhen:
		c.Num, c.Exprs, kids = m.days(3), m.exprs(1, aTruth, s, 2), 2
	}
	for i := range kids {
		c.Kids = append(c.Kids, m.con(m.inside(c, i, s), depth-1))
	}
	return c
}

func (m *maker) accumulation(c *api.Con, s scope) {
	c.Name, c.Loop, c.Range = m.small(), m.small(), m.fitting(s)
	c.Exprs = m.exprs(1, aNumber, s, 2)
	inner := s
	if m.rangeFits(c.Range, s.last) {
		inner.first, _, _ = m.rangeDays(c.Range, s.first, s.last)
	}
	inner.bound = s.bound.and(c.Name, aNumber).and(c.Loop, aNumber)
	c.Exprs = append(c.Exprs, m.expr(aNumber, inner, 2))
}

// inside: what is bound in a contract's kid, and its days, as far as these are known where the maker has erred.
func (m *maker) inside(c api.Con, kid int, s scope) scope {
	switch c.Kind {
	case api.CFor, api.CAccum:
		s.bound = s.bound.and(c.Name, aNumber)
		if !m.rangeFits(c.Range, s.last) {
			return s
		}
	case api.CLet:
		sort := aNumber
		if m.misfit(c.Exprs[0], looking{s.bound, s.first, len(m.Defs)}, anySort, []int{}) == nil {
			sort = m.sortOf(c.Exprs[0], s.bound)
		}
		s.bound = s.bound.and(c.Name, sort)
	}
	s.first, s.last = m.kidDays(c, kid, s.first, s.last)
	return s
}

// madeDeal: a deal by chance; errs and huge as in maker.
func madeDeal(chance *rand.Rand, errs int, huge bool) api.Deal {
	m := &maker{Rand: chance, errs: errs, huge: huge}
	m.Name = "x"
	m.Start = pick(m, api.Date{Y: 2024, M: 1, D: 1}, api.Date{Y: 2023, M: 3, D: 31}, api.Date{Y: 1900, M: 1, D: 1}, api.Date{Y: 2199, M: 12, D: 1})
	for range m.Intn(4) {
		m.Holidays = append(m.Holidays, m.dateOf(m.Intn(40)))
	}
	m.Names = []string{"A", "B", "C"}[:m.Intn(4)]
	if m.err() {
		m.Names = append(slices.Clone(m.Names), pick(m, "A", "B"))
	}
	for i := range m.Intn(4) {
		def := api.Def{Name: []string{"f", "g", "a"}[i], Params: []string{"a", "b", "c"}[:m.Intn(4)]}
		if m.err() {
			def.Name = pick(m, "f", "g")
		}
		if m.err() {
			def.Params = append(slices.Clone(def.Params), pick(m, "a", "b"))
		}
		def.Body = m.expr(pick(m, aNumber, aNumber, aTruth), scope{parameters(def), math.MaxInt, 0, i}, 3)
		if !m.fitsSoFar() || m.misfit(def.Body, looking{parameters(def), -1, i}, anySort, []int{}) != nil {
			m.Defs = append(m.Defs, def)
			m.Body = api.Con{Kind: api.CZero}
			return m.Deal
		}
		m.Defs = append(m.Defs, def)
	}
	m.Body = m.con(scope{nil, 0, 0, len(m.Defs)}, m.Intn(5))
	return m.Deal
}

// fitsSoFar: whether the maker may ask of definitions as if all were well.
func (m *maker) fitsSoFar() bool {
	d := m.plainDeal
	d.Body = api.Con{Kind: api.CZero}
	return d.firstMisfit() == nil
}
