package tree

import "payoff/api"

func (p *parser) expr() api.Expr {
	expr := p.operation(levelOr)
	if !p.skip("?") {
		return expr
	}
	yes := p.expr()
	p.must(":")
	no := p.expr()
	return api.Expr{Op: api.XIf, Kids: []api.Expr{expr, yes, no}}
}

// operation reads operands and the operators between them, as far as these are of the least level or a tighter one.
func (p *parser) operation(least int) api.Expr {
	expr, level := p.signed(), levelSign
	for {
		o, found := p.operator()
		if !found || o.level < least || level < o.first() {
			return expr
		}
		p.must(o.mark)
		second := p.operation(o.second())
		expr, level = api.Expr{Op: o.op, Kids: []api.Expr{expr, second}}, o.level
	}
}

// operator tells which one comes next, if one does.
func (p *parser) operator() (operator, bool) {
	for _, o := range operators {
		if p.is(o.mark) {
			return o, true
		}
	}
	return operator{}, false
}

// signed reads an operand with the signs ahead of it.
func (p *parser) signed() api.Expr {
	switch {
	case p.skip("-"):
		return api.Expr{Op: api.XNeg, Kids: []api.Expr{p.signed()}}
	case p.skip("!"):
		return api.Expr{Op: api.XNot, Kids: []api.Expr{p.signed()}}
	}
	return p.atom()
}

func (p *parser) atom() api.Expr {
	switch p.reached().Kind {
	case api.TokNumber:
		return api.Expr{Op: api.XNum, Num: p.number(0)}
	case api.TokDate:
		return api.Expr{Op: api.XDate, Dates: []api.Date{p.date()}}
	case api.TokUpper:
		return p.observation()
	case api.TokWord:
		return p.word()
	}
	return p.inParens()
}

func (p *parser) observation() api.Expr {
	obs := api.Expr{Op: api.XObs, Name: p.capital()}
	if p.skip("[") {
		p.must("-")
		obs.Num = p.number(1)
		p.must("]")
	}
	return obs
}

// word reads an atom that begins with a keyword or with a name in small letters.
func (p *parser) word() api.Expr {
	switch {
	case p.skip("true"):
		return api.Expr{Op: api.XTrue}
	case p.skip("false"):
		return api.Expr{Op: api.XFalse}
	case p.skip("day"):
		return api.Expr{Op: api.XDay}
	case p.skip("min"):
		return p.function(api.XMin, 2)
	case p.skip("max"):
		return p.function(api.XMax, 2)
	case p.skip("abs"):
		return p.function(api.XAbs, 1)
	case p.skip("ratio"):
		return p.ratio()
	case p.skip("thirty"):
		return p.thirty()
	}
	return p.named()
}

// named reads a name, or a call of what it stands for.
func (p *parser) named() api.Expr {
	name := p.small()
	if !p.skip("(") {
		return api.Expr{Op: api.XName, Name: name}
	}
	call := api.Expr{Op: api.XCall, Name: name}
	if !p.is(")") {
		call.Kids = list(p, p.expr)
	}
	p.must(")")
	return call
}

func (p *parser) function(op, count int) api.Expr {
	p.must("(")
	kids := p.operands(count)
	p.must(")")
	return api.Expr{Op: op, Kids: kids}
}

func (p *parser) ratio() api.Expr {
	p.must("(")
	kids := p.operands(3)
	p.must(",")
	mode := p.mode()
	p.must(")")
	return api.Expr{Op: api.XRatio, Num: mode, Kids: kids}
}

// operands reads so many expressions, with a comma between each two.
func (p *parser) operands(count int) []api.Expr {
	operands := []api.Expr{p.expr()}
	for len(operands) < count {
		p.must(",")
		operands = append(operands, p.expr())
	}
	return operands
}

func (p *parser) mode() int {
	for mode, word := range modes {
		if p.skip(word) {
			return mode
		}
	}
	p.giveUp()
	return 0
}

func (p *parser) thirty() api.Expr {
	p.must("(")
	from := p.date()
	p.must(",")
	to := p.date()
	p.must(")")
	return api.Expr{Op: api.XThird, Dates: []api.Date{from, to}}
}
