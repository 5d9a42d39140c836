package check

import "payoff/api"

// Nodes that no expression of the deal brings.
const (
	nodesOfAction = 2
	nodesOfWatch  = 10 // of an action that looks whether a when's day has come
	nodesOfTest   = 4  // of the step around what a when leads to
)

// con looks at a contract, first at itself and then at its children, counts it, and tells its depth.
func (s *surveyor) con(c *api.Con, at place) int {
	days, fits := s.daysOf(c, at.window)
	if !fits {
		s.tell()
	}
	depth := 1
	var values [2]worth
	for i := range c.Exprs {
		values[i] = s.value(c, i, at, days)
		depth = max(depth, plus(values[i].depth, 1))
	}
	s.countActions(c, at, days, values)
	for i := range c.Kids {
		s.enter(len(c.Exprs) + i)
		kid := s.con(&c.Kids[i], kidPlace(c, i, at, days, values[0]))
		s.leave()
		if !goesOn(c, i) {
			kid = plus(kid, 1)
		}
		depth = max(depth, kid)
	}
	return depth
}

// goesOn tells whether a kid is of the same level as its parent: a chain of ands is one.
func goesOn(c *api.Con, kid int) bool {
	return c.Kind == api.CAnd && kid == 0 && c.Kids[0].Kind == api.CAnd
}

// value looks at an expression of a contract.
func (s *surveyor) value(c *api.Con, i int, at place, days span) worth {
	from, sort := at.view(), number
	switch c.Kind {
	case api.CIf, api.CWhen:
		sort = truth
	case api.CLet:
		sort = either
	case api.CAccum:
		if i == 1 {
			cell := bind(at.names, c.Name, value{number, 1})
			from = view{bind(cell, c.Loop, value{number, 1}), days.first}
		}
	}
	return s.child(i, &c.Exprs[i], from, sort)
}

// countActions takes in what a contract counts itself, without its kids.
func (s *surveyor) countActions(c *api.Con, at place, days span, values [2]worth) {
	switch c.Kind {
	case api.CPay:
		s.act(at.copies, plus(at.wa, values[0].size, nodesOfAction))
		s.reach(at.last)
	case api.CAccum:
		s.keep(at.copies)
		s.act(at.copies, plus(at.wt, values[0].size, nodesOfAction))
		s.act(times(at.copies, days.count), plus(at.wt, values[1].size, nodesOfAction))
		s.reach(max(at.last, days.last))
	case api.CWhen:
		s.keep(at.copies)
		s.act(times(at.copies, plus(c.Num, 1)), plus(at.wt, values[0].size, nodesOfWatch))
		s.reach(plus(at.last, c.Num))
	}
}

// act counts actions of so many nodes each.
func (s *surveyor) act(count, nodes int) {
	s.sum.Actions = plus(s.sum.Actions, count)
	s.sum.Nodes = plus(s.sum.Nodes, times(count, nodes))
}

// keep counts accumulators.
func (s *surveyor) keep(count int) {
	s.sum.Cells = plus(s.sum.Cells, count)
}

// reach takes in a day on which something may be done.
func (s *surveyor) reach(day int) {
	s.sum.Horizon = max(s.sum.Horizon, day)
}

// kidPlace tells where a contract's kid stands. What its first expression is worth goes into the kid's weights, or is bound there.
func kidPlace(c *api.Con, kid int, at place, days span, first worth) place {
	at.window = kidWindow(c, kid, at.window, days)
	switch c.Kind {
	case api.CGive:
		at.wa = plus(at.wa, 1)
	case api.CScale:
		at.wa = plus(at.wa, 1, first.size)
	case api.CIf:
		at.wt = plus(at.wt, 1, first.size)
		at.wa = plus(at.wa, 1, first.size)
	case api.CLet:
		at.names = bind(at.names, c.Name, first.value)
	case api.CFor:
		at.names = bind(at.names, c.Name, value{number, 1})
		at.copies = times(at.copies, days.count)
	case api.CAccum:
		at.names = bind(at.names, c.Name, value{number, 1})
	case api.CWhen:
		at.wt = plus(at.wt, nodesOfTest)
		at.wa = plus(at.wa, nodesOfTest)
		if kid == 0 {
			at.copies = times(at.copies, plus(c.Num, 1))
		}
	}
	return at
}
