package dag

import (
	"payoff/api"
	"payoff/legs"
)

// foldAction works out what of an action is constant. It is well made.
func foldAction(a api.Action) leg {
	l := leg{Action: a}
	l.Steps = nil
	for _, s := range a.Steps {
		if s.Kind != api.StepGive {
			s.E = foldX(s.E)
		}
		if s.Kind == api.StepTest && isConstant(s.E) {
			if s.Want == (s.E.Op == api.XTrue) {
				continue
			}
			return cutBehind(l.Steps, a.Day)
		}
		l.Steps = append(l.Steps, s)
	}
	l.E = foldX(a.E)
	return l
}

// cutBehind tells what is left of an action that never goes on behind some steps: they may still fault.
func cutBehind(steps []api.Step, day int) leg {
	l := leg{Action: api.Action{Day: day, Kind: api.ActFlow}, cut: true}
	for _, s := range steps {
		if s.Kind != api.StepGive {
			l.Steps = append(l.Steps, s)
		}
	}
	return l
}

func isConstant(x api.X) bool {
	return x.Op == api.XNum || x.Op == api.XTrue || x.Op == api.XFalse
}

// foldX works out what of an expression is constant. It is well made.
func foldX(x api.X) api.X {
	switch {
	case len(x.Kids) == 0:
		return x
	case x.Op == api.XAnd || x.Op == api.XOr || x.Op == api.XIf:
		return foldChoice(x)
	}
	x.Kids = each(x.Kids, foldX)
	for _, kid := range x.Kids {
		if !isConstant(kid) {
			return x
		}
	}
	v, fault := legs.Value(x, nil, nil)
	if fault != api.NoFault {
		return x
	}
	return constant(v, ruleOf(x.Op).sort)
}

// foldChoice folds an operator that looks only at what is wanted; so does it.
func foldChoice(x api.X) api.X {
	first := foldX(x.Kids[0])
	if isConstant(first) {
		return chosen(x, first)
	}
	x.Kids = append([]api.X{first}, each(x.Kids[1:], foldX)...)
	return x
}

// chosen tells what an operator comes to whose first kid is true or false.
func chosen(x, first api.X) api.X {
	holds := first.Op == api.XTrue
	switch {
	case x.Op == api.XIf && !holds:
		return foldX(x.Kids[2])
	case x.Op == api.XAnd && !holds, x.Op == api.XOr && holds:
		return first
	}
	return foldX(x.Kids[1])
}

func constant(v int, sort byte) api.X {
	switch {
	case sort == aNumber:
		return api.X{Op: api.XNum, Num: v}
	case v == 0:
		return api.X{Op: api.XFalse}
	}
	return api.X{Op: api.XTrue}
}
