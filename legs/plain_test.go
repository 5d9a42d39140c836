package legs_test

import (
	"maps"
	"slices"
	"testing"

	"payoff/api"
	"payoff/cal"
	"payoff/check"
	"payoff/lex"
	"payoff/num"
)

// A plain reading of chapter 9: what a name stands for is built where it is bound, an action is put in where it belongs, a fault is handed on from call to call.

// unroller goes through a deal that fits and is within the limits.
type unroller struct {
	t       *testing.T
	deal    api.Deal
	actions []api.Action
	cells   int
}

func plainUnroll(t *testing.T, d api.Deal) ([]api.Action, int) {
	u := &unroller{t: t, deal: d}
	u.con(d.Body, 0, nil, nil)
	return u.actions, u.cells
}

// built is what names are bound to.
type built map[string]api.X

func (b built) and(name string, x api.X) built {
	inner := maps.Clone(b)
	if inner == nil {
		inner = built{}
	}
	inner[name] = x
	return inner
}

func op(op int, kids ...api.X) api.X { return api.X{Op: op, Kids: kids} }

func xNum(n int) api.X { return api.X{Op: api.XNum, Num: n} }

func xObs(observable, day int) api.X { return api.X{Op: api.XObs, Num: observable, Day: day} }

func xCell(n int) api.X { return api.X{Op: api.XCell, Num: n} }

func (u *unroller) day(date api.Date) int {
	start, _ := cal.Day(u.deal.Start)
	day, _ := cal.Day(date)
	return day - start
}

func (u *unroller) build(e api.Expr, day int, bound built) api.X {
	switch e.Op {
	case api.XDay:
		return xNum(day)
	case api.XDate:
		return xNum(u.day(e.Dates[0]))
	case api.XThird:
		n, _ := cal.Thirty(e.Dates[0], e.Dates[1])
		return xNum(n)
	case api.XObs:
		return xObs(slices.Index(u.deal.Names, e.Name), day-e.Num)
	case api.XName:
		x, ok := bound[e.Name]
		if !ok {
			u.t.Errorf("%s is not bound", e.Name)
		}
		return x
	}
	x := api.X{Op: e.Op, Num: e.Num}
	for _, kid := range e.Kids {
		x.Kids = append(x.Kids, u.build(kid, day, bound))
	}
	if e.Op != api.XCall {
		return x
	}
	def := u.deal.Defs[slices.IndexFunc(u.deal.Defs, func(d api.Def) bool { return d.Name == e.Name })]
	arguments := built{}
	for i, name := range def.Params {
		arguments[name] = x.Kids[i]
	}
	return u.build(def.Body, day, arguments)
}

// put puts an action behind those of its day and of the days ahead of it.
func (u *unroller) put(a api.Action) {
	at := len(u.actions)
	for at > 0 && u.actions[at-1].Day > a.Day {
		at--
	}
	u.actions = slices.Insert(u.actions, at, a)
}

func (u *unroller) set(cell, day int, steps []api.Step, x api.X) {
	var tests []api.Step
	for _, s := range steps {
		if s.Kind == api.StepTest {
			tests = append(tests, s)
		}
	}
	u.put(api.Action{Day: day, Kind: api.ActSet, Steps: tests, E: x, Cell: cell})
}

func (u *unroller) newCell() api.X {
	u.cells++
	return xCell(u.cells - 1)
}

func (u *unroller) offsets(r api.Range, day int) []int {
	offsets, e := check.Offsets(u.deal, r, day)
	if e != api.OK {
		u.t.Errorf("Offsets(%+v, %d): %d", r, day, e)
	}
	return offsets
}

func (u *unroller) con(c api.Con, day int, steps []api.Step, bound built) {
	with := func(kind int, want bool, x api.X) []api.Step {
		return append(slices.Clone(steps), api.Step{Kind: kind, Want: want, E: x})
	}
	switch c.Kind {
	case api.CPay:
		u.put(api.Action{Day: day, Kind: api.ActFlow, Steps: steps, E: u.build(c.Exprs[0], day, bound), Cur: c.Cur})
	case api.CGive:
		u.con(c.Kids[0], day, with(api.StepGive, false, api.X{}), bound)
	case api.CScale:
		u.con(c.Kids[0], day, with(api.StepTimes, false, u.build(c.Exprs[0], day, bound)), bound)
	case api.CDelay:
		u.con(c.Kids[0], day+c.Num, steps, bound)
	case api.CAt:
		u.con(c.Kids[0], u.day(c.Date), steps, bound)
	case api.CAnd:
		u.con(c.Kids[0], day, steps, bound)
		u.con(c.Kids[1], day, steps, bound)
	case api.CIf:
		u.con(c.Kids[0], day, with(api.StepTest, true, u.build(c.Exprs[0], day, bound)), bound)
		u.con(c.Kids[1], day, with(api.StepTest, false, u.build(c.Exprs[0], day, bound)), bound)
	case api.CLet:
		u.con(c.Kids[0], day, steps, bound.and(c.Name, u.build(c.Exprs[0], day, bound)))
	case api.CFor:
		for _, o := range u.offsets(c.Range, day) {
			u.con(c.Kids[0], day+o, steps, bound.and(c.Name, xNum(o)))
		}
	case api.CAccum:
		cell := u.newCell()
		u.set(cell.Num, day, steps, u.build(c.Exprs[0], day, bound))
		last := 0
		for _, o := range u.offsets(c.Range, day) {
			u.set(cell.Num, day+o, steps, u.build(c.Exprs[1], day+o, bound.and(c.Name, cell).and(c.Loop, xNum(o))))
			last = o
		}
		u.con(c.Kids[0], day+last, steps, bound.and(c.Name, cell))
	case api.CWhen:
		cell := u.newCell()
		is := func(n int) api.X { return op(api.XEq, cell, xNum(n)) }
		for k := range c.Num + 1 {
			hit := op(api.XIf, u.build(c.Exprs[0], day+k, bound), xNum(k+1), xNum(0))
			u.set(cell.Num, day+k, steps, op(api.XIf, is(0), hit, cell))
			u.con(c.Kids[0], day+k, with(api.StepTest, true, is(k+1)), bound)
		}
		u.con(c.Kids[1], day+c.Num, with(api.StepTest, true, is(0)), bound)
	}
}

// kidCounts: of each operator of a leg how many kids it has.
func kidCounts() map[int]int {
	counts := map[int]int{api.XNum: 0, api.XTrue: 0, api.XFalse: 0, api.XObs: 0, api.XCell: 0, api.XNeg: 1, api.XNot: 1, api.XAbs: 1, api.XIf: 3, api.XRatio: 3}
	for _, op := range []int{api.XAdd, api.XSub, api.XMul, api.XDiv, api.XMod, api.XLt, api.XLe, api.XGt, api.XGe, api.XEq, api.XNe, api.XAnd, api.XOr, api.XMin, api.XMax} {
		counts[op] = 2
	}
	return counts
}

// plain is what the plain reading looks at expressions by.
type plain struct {
	rows   [][]api.Cell
	cells  []int
	counts map[int]int
}

func (p plain) shaped(e api.X) bool {
	count, known := p.counts[e.Op]
	return known && count == len(e.Kids)
}

func (p plain) value(e api.X) (int, api.Fault) {
	if !p.shaped(e) {
		return 0, api.NoFault
	}
	var v [3]int
	for i, kid := range e.Kids {
		value, fault := p.value(kid)
		if fault != api.NoFault {
			return 0, fault
		}
		v[i] = value
		if i == 0 {
			switch {
			case e.Op == api.XAnd && value == 0:
				return 0, api.NoFault
			case e.Op == api.XOr && value != 0:
				return 1, api.NoFault
			case e.Op == api.XIf && value != 0:
				return p.value(e.Kids[1])
			case e.Op == api.XIf:
				return p.value(e.Kids[2])
			}
		}
	}
	return p.result(e, v[0], v[1], v[2])
}

func (p plain) result(e api.X, a, b, c int) (int, api.Fault) {
	is := func(truth bool) (int, api.Fault) {
		return map[bool]int{true: 1}[truth], api.NoFault
	}
	switch e.Op {
	case api.XNum:
		return e.Num, api.NoFault
	case api.XObs:
		if e.Day >= 0 && e.Day < len(p.rows) && e.Num >= 0 && e.Num < len(p.rows[e.Day]) && p.rows[e.Day][e.Num].Has {
			return p.rows[e.Day][e.Num].V, api.NoFault
		}
		return 0, api.NoObs
	case api.XCell:
		if e.Num < 0 || e.Num >= len(p.cells) {
			return 0, api.NoFault
		}
		return p.cells[e.Num], api.NoFault
	case api.XNeg:
		return num.Neg(a)
	case api.XAbs:
		return num.Abs(a)
	case api.XAdd:
		return num.Add(a, b)
	case api.XSub:
		return num.Sub(a, b)
	case api.XMul:
		return num.Mul(a, b)
	case api.XDiv:
		return num.Div(a, b)
	case api.XMod:
		return num.Mod(a, b)
	case api.XRatio:
		return num.Ratio(a, b, c, e.Num)
	case api.XMin:
		return slices.Min([]int{a, b}), api.NoFault
	case api.XMax:
		return slices.Max([]int{a, b}), api.NoFault
	case api.XNot:
		return is(a == 0)
	case api.XAnd, api.XOr:
		return is(b != 0) // the first kid has not decided it
	}
	return is(e.Op == api.XTrue || e.Op == api.XLt && a < b || e.Op == api.XLe && a <= b || e.Op == api.XGt && a > b ||
		e.Op == api.XGe && a >= b || e.Op == api.XEq && a == b || e.Op == api.XNe && a != b)
}

// play tells what comes of an action, if anything does.
func (p plain) play(a api.Action) (v int, comes bool, fault api.Fault) {
	factors := map[int]int{}
	for i, s := range a.Steps {
		if s.Kind == api.StepGive {
			continue
		}
		value, fault := p.value(s.E)
		if fault != api.NoFault {
			return 0, false, fault
		}
		if s.Kind == api.StepTimes {
			factors[i] = value
		} else if s.Want && value == 0 || !s.Want && value != 0 {
			return 0, false, api.NoFault
		}
	}
	v, fault = p.value(a.E)
	for i := len(a.Steps) - 1; i >= 0 && fault == api.NoFault; i-- {
		if a.Steps[i].Kind == api.StepTimes {
			v, fault = num.Mul(factors[i], v)
		} else if a.Steps[i].Kind == api.StepGive {
			v, fault = num.Neg(v)
		}
	}
	return v, fault == api.NoFault, fault
}

// plainRefusal: why actions are not played.
func plainRefusal(actions []api.Action, cells int) api.Errno {
	var arg, days bool
	for i, a := range actions {
		for _, s := range a.Steps {
			arg = arg || s.Kind < 1 || s.Kind > 3
		}
		flow := a.Kind == api.ActFlow && lex.Currency(a.Cur)
		set := a.Kind == api.ActSet && a.Cell >= 0 && a.Cell < cells
		arg = arg || !flow && !set
		days = days || a.Day < 0 || a.Day > 3660 || i > 0 && actions[i-1].Day > a.Day
	}
	switch {
	case arg || cells < 0 || cells > 512:
		return api.ErrArg
	case days:
		return api.ErrRange
	case len(actions) > 2048:
		return api.ErrLong
	}
	return api.OK
}

func plainPlay(actions []api.Action, cells int, rows [][]api.Cell) (api.Outcome, api.Errno) {
	if e := plainRefusal(actions, cells); e != api.OK {
		return api.Outcome{}, e
	}
	p := plain{rows, make([]int, cells), kidCounts()}
	var out api.Outcome
	for _, a := range actions {
		v, comes, fault := p.play(a)
		if fault != api.NoFault {
			out.Fault, out.Day = fault, a.Day
			break
		}
		if comes && a.Kind == api.ActFlow {
			out.Flows = append(out.Flows, api.Flow{Day: a.Day, Cur: a.Cur, Amount: v})
		} else if comes {
			p.cells[a.Cell] = v
		}
	}
	return out, api.OK
}

func plainNodes(e api.X) int {
	count := 1
	for _, kid := range e.Kids {
		count += plainNodes(kid)
	}
	return count
}

func plainReads(e api.X) [][2]int {
	if !(plain{counts: kidCounts()}).shaped(e) {
		return nil
	}
	if e.Op == api.XObs {
		return [][2]int{{e.Num, e.Day}}
	}
	var reads [][2]int
	for _, kid := range e.Kids {
		reads = append(reads, plainReads(kid)...)
	}
	return reads
}
