package check

import "payoff/api"

// Sorts of values.
const (
	either = iota // none is wanted
	number
	truth
)

// worth is what is told of an expression. Its reach is how many days it looks back at most.
type worth struct {
	value
	depth, reach int
}

// add takes a kid in, whose size comes to its parent's so many times.
func (w *worth) add(kid worth, copies int) {
	w.size = plus(w.size, times(kid.size, copies))
	w.depth = max(w.depth, plus(kid.depth, 1))
	w.reach = max(w.reach, kid.reach)
}

// expr looks at an expression, first at itself and then at its kids.
func (s *surveyor) expr(e *api.Expr, at view) worth {
	w, fits := s.alone(e, at)
	if !fits {
		s.tell()
	}
	for i := range e.Kids {
		kid := s.child(i, &e.Kids[i], at, wanted(e.Op, i, w.sort))
		if e.Op == api.XIf && i == 1 {
			w.sort = kid.sort
		}
		w.add(kid, s.copies(e, i))
	}
	return w
}

// child looks at a child that is an expression: at the whole of it, and then for its sort.
func (s *surveyor) child(child int, e *api.Expr, at view, wanted int) worth {
	s.enter(child)
	w := s.expr(e, at)
	if wanted != either && w.sort != wanted {
		s.tell()
	}
	s.leave()
	return w
}

// alone tells what an expression is worth ahead of its kids, and whether its own rule holds.
func (s *surveyor) alone(e *api.Expr, at view) (worth, bool) {
	switch e.Op {
	case api.XName:
		bound, ok := at.lookUp(e.Name)
		return worth{value: bound, depth: 1}, ok
	case api.XObs:
		_, ok := s.observables[e.Name]
		reach := min(e.Num, most)
		return worth{value{number, 1}, 1, reach}, ok && reach <= at.first
	case api.XCall:
		called, ok := s.definitions[e.Name]
		w := called.worth
		w.depth = plus(w.depth, 1)
		return w, ok && len(called.uses) == len(e.Kids) && called.reach <= at.first
	}
	return worth{value: value{ownSort(e.Op), 1}, depth: 1}, true
}

// copies tells how often a kid's size comes to its parent's.
func (s *surveyor) copies(e *api.Expr, kid int) int {
	if e.Op == api.XCall {
		return s.definitions[e.Name].uses[kid]
	}
	return 1
}

// ownSort tells the sort of an expression by its operator alone; an XIf has none ahead of its second kid.
func ownSort(op int) int {
	switch op {
	case api.XTrue, api.XFalse, api.XNot, api.XAnd, api.XOr, api.XLt, api.XLe, api.XGt, api.XGe, api.XEq, api.XNe:
		return truth
	case api.XIf:
		return either
	}
	return number
}

// wanted tells the sort that an operator wants of a kid, where its own is known so far.
func wanted(op, kid, own int) int {
	switch op {
	case api.XNot, api.XAnd, api.XOr:
		return truth
	case api.XIf:
		if kid == 0 {
			return truth
		}
		return own
	}
	return number
}
