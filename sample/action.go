package sample

import (
	"math"

	"payoff/api"
)

// Actions makes up to 8 actions that are well made, for so many observables and accumulators, on days up to the horizon. Much in them is constant, and much is alike.
func Actions(chance Chance, observables, cells, horizon int) []api.Action {
	m := &legMaker{chance: chance, observables: observables, cells: cells}
	var actions []api.Action
	for range chance(9) {
		m.day = min(m.day+chance(3), horizon)
		actions = append(actions, m.action())
	}
	return actions
}

// legMaker makes actions, and keeps the expressions that it has made, to put them in once more.
type legMaker struct {
	chance             Chance
	observables, cells int
	day                int
	numbers, truths    []api.X
}

func (m *legMaker) action() api.Action {
	a := api.Action{Day: m.day, Kind: api.ActFlow, Cur: pick(m.chance, "EUR", "USD", "JPY")}
	kinds := []int{api.StepTest, api.StepTimes, api.StepGive}
	if m.cells > 0 && m.chance(3) == 0 {
		a.Kind, a.Cur, a.Cell, kinds = api.ActSet, "", m.chance(m.cells), kinds[:1]
	}
	for range m.chance(4) {
		a.Steps = append(a.Steps, m.step(pick(m.chance, kinds...)))
	}
	a.E = m.number(m.chance(4))
	return a
}

func (m *legMaker) step(kind int) api.Step {
	s := api.Step{Kind: kind}
	switch kind {
	case api.StepTest:
		s.Want, s.E = m.chance(2) == 0, m.truth(m.chance(4))
	case api.StepTimes:
		s.E = m.number(m.chance(4))
	}
	return s
}

// number makes an expression of at most that many levels above its leaves, or takes one that was made.
func (m *legMaker) number(depth int) api.X {
	if len(m.numbers) > 0 && m.chance(5) == 0 {
		return pick(m.chance, m.numbers...)
	}
	x := m.leaf()
	if depth > 0 {
		x = m.calculation(depth - 1)
	}
	m.numbers = append(m.numbers, x)
	return x
}

func (m *legMaker) leaf() api.X {
	switch {
	case m.observables > 0 && m.chance(3) == 0:
		return api.X{Op: api.XObs, Num: m.chance(m.observables), Day: m.chance(m.day + 1)}
	case m.cells > 0 && m.chance(5) == 0:
		return api.X{Op: api.XCell, Num: m.chance(m.cells)}
	case m.chance(20) == 0:
		return api.X{Op: api.XNum, Num: pick(m.chance, math.MaxInt, math.MinInt, 1<<32)}
	}
	return api.X{Op: api.XNum, Num: m.chance(7) - 3}
}

func (m *legMaker) calculation(depth int) api.X {
	x := api.X{Op: pick(m.chance, api.XNeg, api.XAbs, api.XAdd, api.XSub, api.XMul, api.XDiv, api.XMod, api.XMin, api.XMax, api.XRatio, api.XIf)}
	switch x.Op {
	case api.XNeg, api.XAbs:
		x.Kids = []api.X{m.number(depth)}
	case api.XRatio:
		x.Num, x.Kids = m.chance(5), []api.X{m.number(depth), m.number(depth), m.number(depth)}
	case api.XIf:
		x.Kids = []api.X{m.truth(depth), m.number(depth), m.number(depth)}
	default:
		x.Kids = []api.X{m.number(depth), m.number(depth)}
	}
	return x
}

// truth is made as a number is.
func (m *legMaker) truth(depth int) api.X {
	if len(m.truths) > 0 && m.chance(5) == 0 {
		return pick(m.chance, m.truths...)
	}
	x := api.X{Op: pick(m.chance, api.XTrue, api.XFalse)}
	if depth > 0 {
		x = m.question(depth - 1)
	}
	m.truths = append(m.truths, x)
	return x
}

func (m *legMaker) question(depth int) api.X {
	x := api.X{Op: pick(m.chance, api.XNot, api.XAnd, api.XOr, api.XIf, api.XLt, api.XLe, api.XGt, api.XGe, api.XEq, api.XNe)}
	switch x.Op {
	case api.XNot:
		x.Kids = []api.X{m.truth(depth)}
	case api.XAnd, api.XOr:
		x.Kids = []api.X{m.truth(depth), m.truth(depth)}
	case api.XIf:
		x.Kids = []api.X{m.truth(depth), m.truth(depth), m.truth(depth)}
	default:
		x.Kids = []api.X{m.number(depth), m.number(depth)}
	}
	return x
}
