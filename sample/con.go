package sample

import (
	"slices"

	"payoff/api"
	"payoff/check"
)

// place is where a part of a deal stands: what is bound there, the innermost last, and the first and the last day on which it may be acquired.
type place struct {
	names       []string
	sorts       []int
	first, last int
}

// bind puts one name more into a place.
func (at place) bind(name string, sort int) place {
	at.names = append(slices.Clip(at.names), name)
	at.sorts = append(slices.Clip(at.sorts), sort)
	return at
}

// named tells the names that stand for a value of that sort.
func (at place) named(sort int) []string {
	var list, hidden []string
	for i := len(at.names) - 1; i >= 0; i-- {
		if at.sorts[i] == sort && !slices.Contains(hidden, at.names[i]) {
			list = append(list, at.names[i])
		}
		hidden = append(hidden, at.names[i])
	}
	return list
}

func (at place) later(first, last int) place {
	at.first, at.last = first, last
	return at
}

func payment(cur string, amount api.Expr) api.Con {
	return api.Con{Kind: api.CPay, Cur: cur, Exprs: []api.Expr{amount}}
}

func (m *maker) small() string {
	return pick(m.chance, "a", "b", "c", "d")
}

// contract makes a contract of at most that many levels.
func (m *maker) contract(at place, depth int) api.Con {
	if depth <= 0 && m.chance(5) == 0 {
		return api.Con{Kind: api.CZero}
	}
	if depth <= 0 {
		return payment(pick(m.chance, "EUR", "USD", "JPY"), m.expr(aNumber, at, 2))
	}
	switch kind := pick(m.chance, api.CGive, api.CScale, api.CDelay, api.CAt, api.CAnd, api.CAnd, api.CIf, api.CLet, api.CFor, api.CAccum, api.CWhen); kind {
	case api.CFor:
		return m.loop(at, depth)
	case api.CAccum:
		return m.accumulation(at, depth)
	case api.CLet:
		c := api.Con{Kind: kind, Name: m.small()}
		sort := pick(m.chance, aNumber, aTruth)
		c.Exprs = []api.Expr{m.expr(sort, at, 2)}
		return m.around(c, depth, at.bind(c.Name, sort))
	case api.CWhen:
		c := api.Con{Kind: kind, Num: m.chance(4), Exprs: []api.Expr{m.expr(aTruth, at, 2)}}
		return m.around(c, depth, at.later(at.first, at.last+c.Num), at.later(at.first+c.Num, at.last+c.Num))
	case api.CDelay:
		c := api.Con{Kind: kind, Num: m.chance(4)}
		return m.around(c, depth, at.later(at.first+c.Num, at.last+c.Num))
	case api.CAt:
		day := at.last + m.chance(5)
		return m.around(api.Con{Kind: kind, Date: m.date(day)}, depth, at.later(day, day))
	case api.CScale:
		return m.around(api.Con{Kind: kind, Exprs: []api.Expr{m.expr(aNumber, at, 2)}}, depth, at)
	case api.CIf:
		return m.around(api.Con{Kind: kind, Exprs: []api.Expr{m.expr(aTruth, at, 2)}}, depth, at, at)
	case api.CAnd:
		return m.around(api.Con{Kind: kind}, depth, at, at)
	default: // CGive
		return m.around(api.Con{Kind: kind}, depth, at)
	}
}

// around puts kids into a contract, one at each place.
func (m *maker) around(c api.Con, depth int, places ...place) api.Con {
	for _, at := range places {
		c.Kids = append(c.Kids, m.contract(at, depth-1))
	}
	return c
}

func (m *maker) loop(at place, depth int) api.Con {
	r, first, last, _ := m.days(at)
	c := api.Con{Kind: api.CFor, Name: m.small(), Range: r}
	return m.around(c, depth, at.bind(c.Name, aNumber).later(first, last))
}

func (m *maker) accumulation(at place, depth int) api.Con {
	r, first, last, end := m.days(at)
	c := api.Con{Kind: api.CAccum, Name: m.small(), Loop: m.small(), Range: r}
	inside := at.bind(c.Name, aNumber)
	c.Exprs = []api.Expr{m.expr(aNumber, at, 2), m.expr(aNumber, inside.bind(c.Loop, aNumber).later(first, last), 2)}
	return m.around(c, depth, inside.later(end, last))
}

// days makes a range; and tells its first and its last day, and the first day on which it may have come to its end.
func (m *maker) days(at place) (r api.Range, first, last, end int) {
	if m.chance(2) == 0 {
		from := at.last + m.chance(5)
		r = api.Range{Kind: api.RangeDates, From: m.date(from), To: m.date(from + m.chance(60)), Conv: m.chance(4)}
		r.Ten = api.Tenor{N: 1 + m.chance(20), Unit: pick(m.chance, api.UnitDay, api.UnitWeek, api.UnitMonth, api.UnitYear)}
		if offsets, e := check.Offsets(m.Deal, r, at.last); e == api.OK {
			last = at.last + offsets[len(offsets)-1]
			return r, at.last + offsets[0], last, last
		}
	}
	r = api.Range{Kind: api.RangeDays, Lo: m.chance(3), By: 1 + m.chance(3)}
	steps := m.chance(4)
	r.Hi = r.Lo + steps*r.By + m.chance(r.By)
	offset := r.Lo + steps*r.By
	return r, at.first + r.Lo, at.last + offset, at.first + offset
}
