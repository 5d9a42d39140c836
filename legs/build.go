package legs

import (
	"payoff/api"
	"payoff/cal"
)

// term is an expression of a deal, and where it stands: what is bound there, and the day. It is built where it is put in: so each place has its own, and what nothing names costs nothing.
type term struct {
	*api.Expr
	names
	day int
}

// names is what is bound at some place of a deal.
type names interface {
	lookUp(name string) term
}

// scope binds one name, inside the scope that it embeds. (Of the deal's contract that is nil: a deal that fits asks for no name that is not bound.)
type scope struct {
	names
	name  string
	bound term
}

func (s *scope) lookUp(name string) term {
	if name == s.name {
		return s.bound
	}
	return s.names.lookUp(name)
}

// call is the scope of a definition's body: the parameters alone, bound to the arguments of the term that calls.
type call struct {
	definition
	caller term
}

func (c *call) lookUp(name string) term {
	return c.caller.kid(c.params[name])
}

func (t term) kid(i int) term {
	return term{&t.Kids[i], t.names, t.day}
}

// definition is what a call is built by.
type definition struct {
	params map[string]int // the place of each
	body   *api.Expr
	passes int // the parameter that the body only passes on; -1, if it makes something of its own
}

// builder builds a deal's expressions.
type builder struct {
	start       int
	observables map[string]int
	definitions map[string]definition
}

func builderOf(d *api.Deal) builder {
	start, _ := cal.Day(d.Start)
	b := builder{start, places(d.Names), map[string]definition{}}
	for i := range d.Defs {
		b.definitions[d.Defs[i].Name] = b.define(&d.Defs[i])
	}
	return b
}

// places tells where in a list each name stands.
func places(list []string) map[string]int {
	at := map[string]int{}
	for i, name := range list {
		at[name] = i
	}
	return at
}

// define keeps what a body comes to behind the calls that only pass on what they are given. A short row of definitions that do, each calling the one ahead of it twice, would otherwise be entered as often as two to the power of their number, and nothing would come of it.
func (b *builder) define(d *api.Def) definition {
	def := definition{places(d.Params), &d.Body, -1}
	for def.body.Op == api.XCall && b.definitions[def.body.Name].passes >= 0 {
		def.body = &def.body.Kids[b.definitions[def.body.Name].passes]
	}
	if def.body.Op == api.XName {
		def.passes = def.params[def.body.Name]
	}
	return def
}

// enter goes from a call to the body that stands for it.
func (b *builder) enter(t term) term {
	def := b.definitions[t.Name]
	return term{def.body, &call{def, t}, t.day}
}

// root goes on through names and calls to the operator that a term begins with.
func (b *builder) root(t term) term {
	for {
		switch t.Op {
		case api.XName:
			t = t.lookUp(t.Name)
		case api.XCall:
			t = b.enter(t)
		default:
			return t
		}
	}
}

// build makes a term anew, with no names left.
func (b *builder) build(t term) api.X {
	t = b.root(t)
	x := api.X{Op: t.Op}
	switch t.Op {
	case api.XNum, api.XCell, api.XRatio:
		x.Num = t.Num
	case api.XObs:
		x.Num, x.Day = b.observables[t.Name], t.day-t.Num
	case api.XDay:
		x.Op, x.Num = api.XNum, t.day
	case api.XDate:
		x.Op, x.Num = api.XNum, b.dayOf(t.Dates[0])
	case api.XThird:
		x.Op = api.XNum
		x.Num, _ = cal.Thirty(t.Dates[0], t.Dates[1])
	}
	if len(t.Kids) > 0 {
		x.Kids = make([]api.X, len(t.Kids))
	}
	for i := range t.Kids {
		x.Kids[i] = b.build(t.kid(i))
	}
	return x
}

// dayOf tells a date's day, counted from the deal's start.
func (b *builder) dayOf(date api.Date) int {
	number, _ := cal.Day(date)
	return number - b.start
}
