package dag_test

import (
	"math"
	"slices"

	"payoff/api"
	"payoff/legs"
	"payoff/lex"
)

// A plain reading of chapter 10: an expression stays a tree, is held whole against each that has a number, and is looked at anew at each place.

// Sorts of values.
const (
	bad = iota
	aNumber
	aTruth
)

// plainSort: the sort of an expression that is well made at a day.
func plainSort(x api.X, day, names, cells int) int {
	var kids []int
	for _, kid := range x.Kids {
		kids = append(kids, plainSort(kid, day, names, cells))
	}
	has := func(sorts ...int) bool { return slices.Equal(kids, sorts) }
	noNum, noDay := x.Num == 0, x.Day == 0
	switch x.Op {
	case api.XNum:
		return sortIf(noDay && has(), aNumber)
	case api.XTrue, api.XFalse:
		return sortIf(noNum && noDay && has(), aTruth)
	case api.XObs:
		return sortIf(x.Num >= 0 && x.Num < names && x.Day >= 0 && x.Day <= day && has(), aNumber)
	case api.XCell:
		return sortIf(x.Num >= 0 && x.Num < cells && noDay && has(), aNumber)
	case api.XNeg, api.XAbs:
		return sortIf(noNum && noDay && has(aNumber), aNumber)
	case api.XNot:
		return sortIf(noNum && noDay && has(aTruth), aTruth)
	case api.XAdd, api.XSub, api.XMul, api.XDiv, api.XMod, api.XMin, api.XMax:
		return sortIf(noNum && noDay && has(aNumber, aNumber), aNumber)
	case api.XRatio:
		return sortIf(x.Num >= 0 && x.Num <= 4 && noDay && has(aNumber, aNumber, aNumber), aNumber)
	case api.XLt, api.XLe, api.XGt, api.XGe, api.XEq, api.XNe:
		return sortIf(noNum && noDay && has(aNumber, aNumber), aTruth)
	case api.XAnd, api.XOr:
		return sortIf(noNum && noDay && has(aTruth, aTruth), aTruth)
	case api.XIf:
		if has(aTruth, aTruth, aTruth) {
			return sortIf(noNum && noDay, aTruth)
		}
		return sortIf(noNum && noDay && has(aTruth, aNumber, aNumber), aNumber)
	}
	return bad
}

func sortIf(fits bool, sort int) int {
	if fits {
		return sort
	}
	return bad
}

// plainLeg: an action, or what is left of one that is cut.
type plainLeg struct {
	api.Action
	cut bool
}

func isBlank(x api.X) bool { return x.Op == 0 && x.Num == 0 && x.Day == 0 && len(x.Kids) == 0 }

func plainFits(l plainLeg, names, cells, horizon int) bool {
	fits := l.Day >= 0 && l.Day <= horizon
	kinds := map[int]int{}
	for _, s := range l.Steps {
		kinds[s.Kind]++
		switch s.Kind {
		case api.StepTest:
			fits = fits && plainSort(s.E, l.Day, names, cells) == aTruth
		case api.StepTimes:
			fits = fits && !s.Want && plainSort(s.E, l.Day, names, cells) == aNumber
		default:
			fits = fits && s.Kind == api.StepGive && !s.Want && isBlank(s.E)
		}
	}
	if l.cut {
		return fits && l.Kind == api.ActFlow && l.Cur == "" && l.Cell == 0 && len(l.Steps) > 0 && kinds[api.StepGive] == 0
	}
	flow := l.Kind == api.ActFlow && lex.Currency(l.Cur) && l.Cell == 0
	set := l.Kind == api.ActSet && l.Cur == "" && l.Cell >= 0 && l.Cell < cells && kinds[api.StepTest] == len(l.Steps)
	return fits && (flow || set) && plainSort(l.E, l.Day, names, cells) == aNumber
}

func plainFrameFits(names []string, list []plainLeg, cells, horizon int) bool {
	fits := len(names) <= 64 && cells >= 0 && cells <= 512 && horizon >= 0 && horizon <= 3660
	for i, name := range names {
		fits = fits && lex.Capital(name) && slices.Index(names, name) == i
	}
	for i, l := range list {
		fits = fits && plainFits(l, len(names), cells, horizon) && (i == 0 || list[i-1].Day <= l.Day)
	}
	return fits
}

func plainWeight(list []plainLeg) int {
	weight := 0
	for _, l := range list {
		weight += 2 + len(l.Steps)
		for _, s := range l.Steps {
			if s.Kind != api.StepGive {
				weight += legs.Nodes(s.E)
			}
		}
		if !l.cut {
			weight += legs.Nodes(l.E)
		}
	}
	return weight
}

// plainFold: an expression, folded.
func plainFold(x api.X) api.X {
	truths := map[int]bool{api.XTrue: true, api.XFalse: false}
	folded := api.X{Op: x.Op, Num: x.Num, Day: x.Day}
	constants := len(x.Kids) > 0
	for i, kid := range x.Kids {
		k := plainFold(kid)
		first, known := truths[k.Op]
		if i == 0 && known {
			switch {
			case x.Op == api.XAnd && !first, x.Op == api.XOr && first:
				return k
			case x.Op == api.XAnd, x.Op == api.XOr, x.Op == api.XIf && first:
				return plainFold(x.Kids[1])
			case x.Op == api.XIf:
				return plainFold(x.Kids[2])
			}
		}
		constants = constants && (known || k.Op == api.XNum)
		folded.Kids = append(folded.Kids, k)
	}
	if !constants {
		return folded
	}
	v, fault := legs.Value(folded, nil, nil)
	if fault != api.NoFault {
		return folded
	}
	if plainSort(folded, 0, 0, 0) == aNumber {
		return api.X{Op: api.XNum, Num: v}
	}
	return api.X{Op: map[int]int{0: api.XFalse, 1: api.XTrue}[v]}
}

// plainFoldLegs: the actions that are left.
func plainFoldLegs(list []plainLeg) []plainLeg {
	var left []plainLeg
	for _, l := range list {
		folded := plainLeg{Action: api.Action{Day: l.Day, Kind: l.Kind, Cur: l.Cur, Cell: l.Cell}}
		for _, s := range l.Steps {
			if s.Kind != api.StepGive {
				s.E = plainFold(s.E)
			}
			if s.Kind == api.StepTest && (s.E.Op == api.XTrue && !s.Want || s.E.Op == api.XFalse && s.Want) {
				folded.cut = true
				break
			}
			if s.Kind == api.StepTest && (s.E.Op == api.XTrue || s.E.Op == api.XFalse) {
				continue
			}
			folded.Steps = append(folded.Steps, s)
		}
		if folded.cut {
			folded.Kind, folded.Cur, folded.Cell = api.ActFlow, "", 0
			folded.Steps = slices.DeleteFunc(folded.Steps, func(s api.Step) bool { return s.Kind == api.StepGive })
		} else {
			folded.E = plainFold(l.E)
		}
		if !folded.cut || len(folded.Steps) > 0 {
			left = append(left, folded)
		}
	}
	return left
}

// plainNumbers: all expressions that have a number.
type plainNumbers struct{ all []api.X }

func sameX(a, b api.X) bool {
	return a.Op == b.Op && a.Num == b.Num && a.Day == b.Day && slices.EqualFunc(a.Kids, b.Kids, sameX)
}

func (p *plainNumbers) number(x api.X) int {
	for _, kid := range x.Kids {
		p.number(kid)
	}
	at := slices.IndexFunc(p.all, func(other api.X) bool { return sameX(x, other) })
	if at < 0 {
		at = len(p.all)
		p.all = append(p.all, x)
	}
	return at
}

func (p *plainNumbers) nodes() []api.Node {
	var nodes []api.Node
	for _, x := range p.all {
		n := api.Node{Op: x.Op, Num: x.Num, Day: x.Day, A: -1, B: -1, C: -1}
		for i, kid := range x.Kids {
			*[]*int{&n.A, &n.B, &n.C}[i] = p.number(kid)
		}
		nodes = append(nodes, n)
	}
	return nodes
}

func plainNormal(names []string, list []plainLeg, cells, horizon int) api.Normal {
	p := &plainNumbers{}
	n := api.Normal{Names: names, Cells: cells, Horizon: horizon}
	for _, l := range list {
		a := api.NAction{Day: l.Day, Kind: l.Kind, Cur: l.Cur, Cell: l.Cell, E: -1}
		for _, s := range l.Steps {
			step := api.NStep{Kind: s.Kind, Want: s.Want}
			if s.Kind != api.StepGive {
				step.E = p.number(s.E)
			}
			a.Steps = append(a.Steps, step)
		}
		if !l.cut {
			a.E = p.number(l.E)
		}
		n.Actions = append(n.Actions, a)
	}
	n.Nodes = p.nodes()
	return n
}

func wholeLegs(actions []api.Action) []plainLeg {
	var list []plainLeg
	for _, a := range actions {
		list = append(list, plainLeg{Action: a})
	}
	return list
}

func plainNorm(names []string, actions []api.Action, cells, horizon int, fold bool) (api.Normal, api.Errno) {
	list := wholeLegs(actions)
	switch {
	case len(actions) > 2048 || plainWeight(list) > 16384:
		return api.Normal{}, api.ErrLong
	case !plainFrameFits(names, list, cells, horizon):
		return api.Normal{}, api.ErrArg
	case fold:
		list = plainFoldLegs(list)
	}
	return plainNormal(names, list, cells, horizon), api.OK
}

// kidCounts: of each operator of a leg how many kids it has.
func kidCounts() map[int]int {
	counts := map[int]int{api.XNum: 0, api.XTrue: 0, api.XFalse: 0, api.XObs: 0, api.XCell: 0, api.XNeg: 1, api.XNot: 1, api.XAbs: 1, api.XIf: 3, api.XRatio: 3}
	for _, op := range []int{api.XAdd, api.XSub, api.XMul, api.XDiv, api.XMod, api.XLt, api.XLe, api.XGt, api.XGe, api.XEq, api.XNe, api.XAnd, api.XOr, api.XMin, api.XMax} {
		counts[op] = 2
	}
	return counts
}

// plainExpressions: what the nodes say, if each one's parts are as they must be.
func plainExpressions(nodes []api.Node) ([]api.X, bool) {
	var list []api.X
	counts := kidCounts()
	for _, n := range nodes {
		count, known := counts[n.Op]
		x := api.X{Op: n.Op, Num: n.Num, Day: n.Day}
		for i, part := range []int{n.A, n.B, n.C} {
			if !known || i < count && (part < 0 || part >= len(list)) || i >= count && part != -1 {
				return nil, false
			}
			if i < count {
				x.Kids = append(x.Kids, list[part])
			}
		}
		list = append(list, x)
	}
	return list, true
}

// plainLegs: what the normal actions say, if their numbers are numbers of nodes.
func plainLegs(n api.Normal, list []api.X) ([]plainLeg, bool) {
	var all []plainLeg
	fits := true
	at := func(number int) api.X {
		if number < 0 || number >= len(list) {
			fits = false
			return api.X{}
		}
		return list[number]
	}
	for _, a := range n.Actions {
		l := plainLeg{api.Action{Day: a.Day, Kind: a.Kind, Cur: a.Cur, Cell: a.Cell}, a.E == -1}
		for _, s := range a.Steps {
			step := api.Step{Kind: s.Kind, Want: s.Want}
			if s.Kind != api.StepGive {
				step.E = at(s.E)
			}
			l.Steps = append(l.Steps, step)
		}
		if !l.cut {
			l.E = at(a.E)
		}
		all = append(all, l)
	}
	return all, fits
}

// plainValid: what Valid answers, and what the form says if that is OK.
func plainValid(n api.Normal) ([]plainLeg, api.Errno) {
	if len(n.Nodes) > 16384 || len(n.Actions) > 2048 {
		return nil, api.ErrLong
	}
	list, fits := plainExpressions(n.Nodes)
	if !fits {
		return nil, api.ErrArg
	}
	for i, x := range list {
		if plainSort(x, math.MaxInt, len(n.Names), n.Cells) == bad || slices.Index(n.Nodes, n.Nodes[i]) != i {
			return nil, api.ErrArg
		}
	}
	all, fits := plainLegs(n, list)
	if !fits || !plainFrameFits(n.Names, all, n.Cells, n.Horizon) || !sameNormal(plainNormal(n.Names, all, n.Cells, n.Horizon), n) {
		return nil, api.ErrArg
	}
	if plainWeight(all) > 16384 {
		return nil, api.ErrLong
	}
	return all, api.OK
}

// plainOpen: the actions of a form that says those.
func plainOpen(list []plainLeg) []api.Action {
	var actions []api.Action
	for _, l := range list {
		a := l.Action
		if l.cut {
			a.Steps = append(slices.Clone(a.Steps), test(true, op(api.XFalse)))
			a.E, a.Cur = xNum(0), "AAA"
		}
		actions = append(actions, a)
	}
	return actions
}

func sameNormal(a, b api.Normal) bool {
	return slices.Equal(a.Names, b.Names) && slices.Equal(a.Nodes, b.Nodes) && a.Cells == b.Cells && a.Horizon == b.Horizon &&
		slices.EqualFunc(a.Actions, b.Actions, func(a, b api.NAction) bool {
			return a.Day == b.Day && a.Kind == b.Kind && slices.Equal(a.Steps, b.Steps) && a.E == b.E && a.Cur == b.Cur && a.Cell == b.Cell
		})
}

func sameActions(a, b []api.Action) bool {
	return slices.EqualFunc(a, b, func(a, b api.Action) bool {
		return a.Day == b.Day && a.Kind == b.Kind && sameX(a.E, b.E) && a.Cur == b.Cur && a.Cell == b.Cell &&
			slices.EqualFunc(a.Steps, b.Steps, func(a, b api.Step) bool { return a.Kind == b.Kind && a.Want == b.Want && sameX(a.E, b.E) })
	})
}

func sameOutcome(a, b api.Outcome) bool {
	return slices.Equal(a.Flows, b.Flows) && a.Fault == b.Fault && a.Day == b.Day
}
