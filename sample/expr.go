package sample

import (
	"math"

	"payoff/api"
)

// Sorts of values.
const (
	aNumber = 1
	aTruth  = 2
)

func number(n int) api.Expr {
	return api.Expr{Op: api.XNum, Num: n}
}

// expr makes an expression of that sort.
func (m *maker) expr(sort int, at place, depth int) api.Expr {
	if names := at.named(sort); len(names) > 0 && m.chance(3) == 0 {
		return api.Expr{Op: api.XName, Name: pick(m.chance, names...)}
	}
	if depth > 0 && m.chance(4) == 0 {
		if e, ok := m.call(sort, at, depth); ok {
			return e
		}
	}
	if depth > 0 && m.chance(6) == 0 {
		return api.Expr{Op: api.XIf, Kids: []api.Expr{m.expr(aTruth, at, depth-1), m.expr(sort, at, depth-1), m.expr(sort, at, depth-1)}}
	}
	if sort == aTruth {
		return m.truth(at, depth)
	}
	return m.number(at, depth)
}

// operation makes an operator over so many kids of that sort.
func (m *maker) operation(op, kids, sort int, at place, depth int) api.Expr {
	e := api.Expr{Op: op}
	for range kids {
		e.Kids = append(e.Kids, m.expr(sort, at, depth-1))
	}
	return e
}

// call makes a call of a definition of that sort that does not look too far back, if there is one.
func (m *maker) call(sort int, at place, depth int) (api.Expr, bool) {
	var fit []int
	for i, k := range m.known {
		if k.sort == sort && k.reach <= at.first {
			fit = append(fit, i)
		}
	}
	if len(fit) == 0 {
		return api.Expr{}, false
	}
	called := pick(m.chance, fit...)
	m.back = max(m.back, m.known[called].reach)
	e := m.operation(api.XCall, len(m.Defs[called].Params), aNumber, at, depth)
	e.Name = m.Defs[called].Name
	return e, true
}

func (m *maker) truth(at place, depth int) api.Expr {
	if depth == 0 {
		return api.Expr{Op: pick(m.chance, api.XTrue, api.XFalse)}
	}
	switch op := pick(m.chance, api.XNot, api.XAnd, api.XOr, api.XLt, api.XLe, api.XGt, api.XGe, api.XEq, api.XNe); op {
	case api.XNot:
		return m.operation(op, 1, aTruth, at, depth)
	case api.XAnd, api.XOr:
		return m.operation(op, 2, aTruth, at, depth)
	default:
		return m.operation(op, 2, aNumber, at, depth)
	}
}

func (m *maker) number(at place, depth int) api.Expr {
	if depth == 0 || m.chance(3) == 0 {
		return m.leaf(at)
	}
	switch op := pick(m.chance, api.XNeg, api.XAbs, api.XRatio, api.XAdd, api.XSub, api.XMul, api.XDiv, api.XMod, api.XMin, api.XMax); op {
	case api.XNeg, api.XAbs:
		return m.operation(op, 1, aNumber, at, depth)
	case api.XRatio:
		e := m.operation(op, 3, aNumber, at, depth)
		e.Num = m.chance(5)
		return e
	default:
		return m.operation(op, 2, aNumber, at, depth)
	}
}

func (m *maker) leaf(at place) api.Expr {
	switch m.chance(8) {
	case 0:
		return api.Expr{Op: api.XDay}
	case 1:
		return api.Expr{Op: api.XDate, Dates: []api.Date{m.date(m.chance(99))}}
	case 2:
		return api.Expr{Op: api.XThird, Dates: []api.Date{m.date(m.chance(99)), m.date(m.chance(99))}}
	case 3, 4, 5:
		if len(m.Names) == 0 {
			break
		}
		back := m.chance(min(at.first, 3) + 1)
		m.back = max(m.back, back)
		return api.Expr{Op: api.XObs, Name: pick(m.chance, m.Names...), Num: back}
	}
	if m.chance(30) == 0 {
		return number(pick(m.chance, math.MaxInt, 1<<62, 1<<32))
	}
	return number(m.chance(9))
}
