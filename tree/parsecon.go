package tree

import (
	"payoff/api"
	"payoff/lex"
)

// leastStep is the least number that may stand behind step: a step of 1 is told by leaving it out.
const leastStep = 2

func (p *parser) con() api.Con {
	con := p.prim()
	for p.skip("and") {
		con = api.Con{Kind: api.CAnd, Kids: []api.Con{con, p.prim()}}
	}
	return con
}

// prim reads one contract. The rules' heads differ, their ends are alike: a branch up to else, if there are two, and the last contract.
func (p *parser) prim() api.Con {
	if p.skip("{") {
		return p.braced()
	}
	var con api.Con
	p.head(&con)
	switch con.Kind {
	case api.CIf, api.CWhen:
		con.Kids = append(con.Kids, p.prim())
		p.must("else")
		fallthrough
	case api.CGive, api.CScale, api.CDelay, api.CAt, api.CLet, api.CFor, api.CAccum:
		con.Kids = append(con.Kids, p.prim())
	}
	return con
}

func (p *parser) braced() api.Con {
	con := p.con()
	p.must("}")
	return con
}

// head reads what stands ahead of a prim's own contracts; its first word tells the rule.
func (p *parser) head(con *api.Con) {
	switch {
	case p.skip("zero"):
		con.Kind = api.CZero
	case p.skip("pay"):
		con.Kind = api.CPay
		p.payment(con)
	case p.skip("give"):
		con.Kind = api.CGive
	case p.skip("scale"):
		con.Kind = api.CScale
		con.Exprs = []api.Expr{p.inParens()}
	case p.skip("delay"):
		con.Kind = api.CDelay
		p.must("(")
		con.Num = p.number(0)
		p.must(")")
	case p.skip("at"):
		con.Kind = api.CAt
		p.must("(")
		con.Date = p.date()
		p.must(")")
	case p.skip("if"):
		con.Kind = api.CIf
		con.Exprs = []api.Expr{p.inParens()}
	case p.skip("let"):
		con.Kind = api.CLet
		p.binding(con)
		p.must("in")
	case p.skip("for"):
		con.Kind = api.CFor
		con.Name, con.Range = p.loop()
	case p.skip("accumulate"):
		con.Kind = api.CAccum
		p.accumulation(con)
	case p.skip("when"):
		con.Kind = api.CWhen
		con.Exprs = []api.Expr{p.inParens()}
		p.must("within")
		con.Num = p.number(0)
	default:
		p.giveUp()
	}
}

func (p *parser) payment(con *api.Con) {
	p.must("(")
	con.Cur = p.name(lex.Currency)
	p.must(",")
	con.Exprs = []api.Expr{p.expr()}
	p.must(")")
}

// inParens reads an expression between parentheses.
func (p *parser) inParens() api.Expr {
	p.must("(")
	expr := p.expr()
	p.must(")")
	return expr
}

// binding reads a name and the expression that it stands for.
func (p *parser) binding(con *api.Con) {
	con.Name = p.small()
	p.must("=")
	con.Exprs = []api.Expr{p.expr()}
}

func (p *parser) accumulation(con *api.Con) {
	p.binding(con)
	p.must("for")
	con.Loop, con.Range = p.loop()
	p.must("by")
	con.Exprs = append(con.Exprs, p.expr())
	p.must("then")
}

// loop reads a name and the days that it stands for, one by one.
func (p *parser) loop() (string, api.Range) {
	name := p.small()
	p.must("in")
	if p.skip("every") {
		return name, p.dates()
	}
	return name, p.days()
}

// days reads a range of days by their numbers.
func (p *parser) days() api.Range {
	days := api.Range{Kind: api.RangeDays, By: 1}
	days.Lo = p.number(0)
	p.must("..")
	days.Hi = p.number(0)
	if p.skip("step") {
		days.By = p.number(leastStep)
	}
	return days
}

// dates reads a range of days by the calendar, behind its first word.
func (p *parser) dates() api.Range {
	dates := api.Range{Kind: api.RangeDates}
	dates.Ten = p.take(api.TokTenor).Ten
	p.must("from")
	dates.From = p.date()
	p.must("to")
	dates.To = p.date()
	dates.Conv = p.convention()
	return dates
}

func (p *parser) convention() int {
	for conv := api.Following; conv <= api.Preceding; conv++ {
		if p.skip(conventions[conv]) {
			return conv
		}
	}
	return api.Unadjusted
}
