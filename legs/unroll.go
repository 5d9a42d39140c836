package legs

import (
	"slices"

	"payoff/api"
)

// step is a step of the actions inside it, not built yet.
type step struct {
	kind int
	want bool
	e    term
}

// place is where a contract is acquired: what is bound there, the day, and the steps around.
type place struct {
	names
	day   int
	steps []step
}

func (at place) term(e *api.Expr) term {
	return term{e, at.names, at.day}
}

func (at place) on(day int) place {
	at.day = day
	return at
}

func (at place) bind(name string, to term) place {
	at.names = &scope{at.names, name, to}
	return at
}

// behind puts one step more behind those around.
func (at place) behind(kind int, want bool, e term) place {
	at.steps = append(slices.Clip(at.steps), step{kind, want, e})
	return at
}

// unroller goes through a deal, and keeps the actions that its contracts bring.
type unroller struct {
	builder
	actions []api.Action
	cells   int
}

// con brings the actions of a contract, as it is acquired at that place.
func (u *unroller) con(p *part, at place) {
	if p == nil {
		return
	}
	switch p.Kind {
	case api.CPay:
		u.pay(p, at)
	case api.CGive:
		u.con(p.kids[0], at.behind(api.StepGive, false, term{}))
	case api.CScale:
		u.con(p.kids[0], at.behind(api.StepTimes, false, at.term(&p.Exprs[0])))
	case api.CDelay:
		u.con(p.kids[0], at.on(at.day+p.Num))
	case api.CAt:
		u.con(p.kids[0], at.on(u.dayOf(p.Date)))
	case api.CAnd:
		u.con(p.kids[0], at)
		u.con(p.kids[1], at)
	case api.CIf:
		u.con(p.kids[0], at.behind(api.StepTest, true, at.term(&p.Exprs[0])))
		u.con(p.kids[1], at.behind(api.StepTest, false, at.term(&p.Exprs[0])))
	case api.CLet:
		u.con(p.kids[0], at.bind(p.Name, at.term(&p.Exprs[0])))
	case api.CFor:
		for _, offset := range p.offsets(at.day) {
			u.con(p.kids[0], at.on(at.day+offset).bind(p.Name, leaf(api.XNum, offset)))
		}
	case api.CAccum:
		u.accumulate(p, at)
	case api.CWhen:
		u.when(p, at)
	}
}

func (u *unroller) accumulate(p *part, at place) {
	cell := u.newCell()
	u.set(cell, at.term(&p.Exprs[0]), at)
	inside := at.bind(p.Name, cell)
	for _, offset := range p.offsets(at.day) {
		inside.day = at.day + offset
		u.set(cell, inside.bind(p.Loop, leaf(api.XNum, offset)).term(&p.Exprs[1]), inside)
	}
	u.con(p.kids[0], inside)
}

// when keeps in an accumulator the number of the first day, counted from 1, on which the condition holds; 0 is none so far.
func (u *unroller) when(p *part, at place) {
	hit := u.newCell()
	isDay := func(k int) api.Expr { return operation(api.XEq, *hit.Expr, number(k)) }
	for k := range p.Num + 1 {
		today := at.on(at.day + k)
		asks := operation(api.XIf, p.Exprs[0], number(k+1), number(0))
		next := operation(api.XIf, isDay(0), asks, *hit.Expr)
		u.set(hit, today.term(&next), today)
		is := isDay(k + 1)
		u.con(p.kids[0], today.behind(api.StepTest, true, today.term(&is)))
	}
	never := isDay(0)
	u.con(p.kids[1], at.on(at.day+p.Num).behind(api.StepTest, true, at.term(&never)))
}

// leaf is a term of a number or an accumulator, which is the same at every place.
func leaf(op, n int) term {
	return term{Expr: &api.Expr{Op: op, Num: n}}
}

func number(n int) api.Expr {
	return api.Expr{Op: api.XNum, Num: n}
}

func operation(op int, kids ...api.Expr) api.Expr {
	return api.Expr{Op: op, Kids: kids}
}

func (u *unroller) newCell() term {
	u.cells++
	return leaf(api.XCell, u.cells-1)
}

func (u *unroller) pay(p *part, at place) {
	u.actions = append(u.actions, api.Action{
		Day: at.day, Kind: api.ActFlow, Steps: u.built(at.steps), E: u.build(at.term(&p.Exprs[0])), Cur: p.Cur,
	})
}

// set brings an action that sets an accumulator. Of the steps around it the tests alone are its own: its number is not scaled, nor given.
func (u *unroller) set(cell, to term, at place) {
	tests := slices.DeleteFunc(slices.Clone(at.steps), func(s step) bool { return s.kind != api.StepTest })
	u.actions = append(u.actions, api.Action{
		Day: at.day, Kind: api.ActSet, Steps: u.built(tests), E: u.build(to), Cell: cell.Num,
	})
}

func (u *unroller) built(steps []step) []api.Step {
	list := make([]api.Step, len(steps))
	for i, s := range steps {
		list[i] = api.Step{Kind: s.kind, Want: s.want}
		if s.kind != api.StepGive {
			list[i].E = u.build(s.e)
		}
	}
	return list
}
