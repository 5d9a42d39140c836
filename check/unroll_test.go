package check_test

import (
	"maps"
	"math/rand"
	"slices"
	"testing"

	"payoff/api"
	"payoff/cal"
	"payoff/check"
)

// The actions of a deal, as chapter 9 makes them: what a measure foretells.

// unroller goes through a deal that fits and is within the limits.
type unroller struct {
	t       *testing.T
	deal    api.Deal
	actions []api.Action
	cells   int
}

// built is what names are bound to.
type built map[string]api.X

func (b built) and(name string, x api.X) built {
	inner := maps.Clone(b)
	if inner == nil {
		inner = built{}
	}
	inner[name] = x
	return inner
}

func xOf(op int, kids ...api.X) api.X { return api.X{Op: op, Kids: kids} }

func xNum(n int) api.X { return api.X{Op: api.XNum, Num: n} }

func (u *unroller) build(e api.Expr, day int, bound built) api.X {
	switch e.Op {
	case api.XDay:
		return xNum(day)
	case api.XDate:
		return xNum(plainDeal{u.deal}.day(e.Dates[0]))
	case api.XThird:
		n, _ := cal.Thirty(e.Dates[0], e.Dates[1])
		return xNum(n)
	case api.XObs:
		if day-e.Num < 0 {
			u.t.Errorf("%s is looked at %d days ahead of day %d", e.Name, e.Num, day)
		}
		return api.X{Op: e.Op, Num: slices.Index(u.deal.Names, e.Name), Day: day - e.Num}
	case api.XName:
		x, ok := bound[e.Name]
		if !ok {
			u.t.Errorf("%s is not bound", e.Name)
		}
		return x
	}
	x := api.X{Op: e.Op, Num: e.Num}
	for _, kid := range e.Kids {
		x.Kids = append(x.Kids, u.build(kid, day, bound))
	}
	if e.Op != api.XCall {
		return x
	}
	def := u.deal.Defs[plainDeal{u.deal}.definition(e.Name)]
	arguments := built{}
	for i, name := range def.Params {
		arguments[name] = x.Kids[i]
	}
	return u.build(def.Body, day, arguments)
}

func (u *unroller) set(cell, day int, steps []api.Step, x api.X) {
	tests := slices.DeleteFunc(slices.Clone(steps), func(s api.Step) bool { return s.Kind != api.StepTest })
	u.actions = append(u.actions, api.Action{Day: day, Kind: api.ActSet, Steps: tests, E: x, Cell: cell})
}

func (u *unroller) newCell() api.X {
	u.cells++
	return api.X{Op: api.XCell, Num: u.cells - 1}
}

func (u *unroller) offsets(r api.Range, day int) []int {
	offsets, e := check.Offsets(u.deal, r, day)
	if e != api.OK {
		u.t.Errorf("Offsets(%+v, %d): %d", r, day, e)
	}
	return offsets
}

func (u *unroller) con(c api.Con, day int, steps []api.Step, bound built) {
	with := func(kind int, want bool, x api.X) []api.Step {
		return append(slices.Clone(steps), api.Step{Kind: kind, Want: want, E: x})
	}
	switch c.Kind {
	case api.CPay:
		u.actions = append(u.actions, api.Action{Day: day, Kind: api.ActFlow, Steps: steps, E: u.build(c.Exprs[0], day, bound), Cur: c.Cur})
	case api.CGive:
		u.con(c.Kids[0], day, with(api.StepGive, false, api.X{}), bound)
	case api.CScale:
		u.con(c.Kids[0], day, with(api.StepTimes, false, u.build(c.Exprs[0], day, bound)), bound)
	case api.CDelay:
		u.con(c.Kids[0], day+c.Num, steps, bound)
	case api.CAt:
		at := plainDeal{u.deal}.day(c.Date)
		if at < day {
			u.t.Errorf("day %d is ahead of day %d", at, day)
		}
		u.con(c.Kids[0], at, steps, bound)
	case api.CAnd:
		u.con(c.Kids[0], day, steps, bound)
		u.con(c.Kids[1], day, steps, bound)
	case api.CIf:
		u.con(c.Kids[0], day, with(api.StepTest, true, u.build(c.Exprs[0], day, bound)), bound)
		u.con(c.Kids[1], day, with(api.StepTest, false, u.build(c.Exprs[0], day, bound)), bound)
	case api.CLet:
		u.con(c.Kids[0], day, steps, bound.and(c.Name, u.build(c.Exprs[0], day, bound)))
	case api.CFor:
		for _, o := range u.offsets(c.Range, day) {
			u.con(c.Kids[0], day+o, steps, bound.and(c.Name, xNum(o)))
		}
	case api.CAccum:
		cell := u.newCell()
		u.set(cell.Num, day, steps, u.build(c.Exprs[0], day, bound))
		last := 0
		for _, o := range u.offsets(c.Range, day) {
			u.set(cell.Num, day+o, steps, u.build(c.Exprs[1], day+o, bound.and(c.Name, cell).and(c.Loop, xNum(o))))
			last = o
		}
		u.con(c.Kids[0], day+last, steps, bound.and(c.Name, cell))
	case api.CWhen:
		cell := u.newCell()
		is := func(n int) api.X { return xOf(api.XEq, cell, xNum(n)) }
		for k := range c.Num + 1 {
			hit := xOf(api.XIf, u.build(c.Exprs[0], day+k, bound), xNum(k+1), xNum(0))
			u.set(cell.Num, day+k, steps, xOf(api.XIf, is(0), hit, cell))
			u.con(c.Kids[0], day+k, with(api.StepTest, true, is(k+1)), bound)
		}
		u.con(c.Kids[1], day+c.Num, with(api.StepTest, true, is(0)), bound)
	}
}

func nodes(x api.X) int {
	count := 1
	for _, kid := range x.Kids {
		count += nodes(kid)
	}
	return count
}

// P811: what a deal's measure says of its actions, and that no observation is looked at ahead of day 0.
func TestMeasuresForetellTheActions(t *testing.T) {
	t.Parallel()
	chance := rand.New(rand.NewSource(84))
	within := 0
	for within < 3000 {
		d := madeDeal(chance, 0, false)
		m, e := check.Measure(d)
		if e != api.OK || check.Within(m) != api.OK || m.Actions < 2 {
			continue
		}
		within++
		u := &unroller{t: t, deal: d}
		u.con(d.Body, 0, nil, nil)
		count, last := 0, 0
		for _, a := range u.actions {
			count += 2 + nodes(a.E)
			last = max(last, a.Day)
			for _, s := range a.Steps {
				count++
				if s.Kind != api.StepGive {
					count += nodes(s.E)
				}
			}
		}
		if len(u.actions) != m.Actions || u.cells != m.Cells || count != m.Nodes || last > m.Horizon || t.Failed() {
			t.Errorf("%d actions, %d cells, %d nodes, last day %d: %+v of %s", len(u.actions), u.cells, count, last, m, told(d))
			return
		}
	}
}
