// Package tree: a deal's text as a tree, and back (layer 7).
package tree

import "payoff/api"

// parser has a method a rule of the grammar; each goes past what its rule takes, or gives up by a panic.
type parser struct {
	row
}

// Parse reads a deal's text; with an error the place.
func Parse(text string) (deal api.Deal, place int, e api.Errno) {
	if len(text) > api.MaxSource {
		return api.Deal{}, 0, api.ErrLong
	}
	defer func() {
		if at, gaveUp := placeOf(recover()); gaveUp {
			deal, place, e = api.Deal{}, at, api.ErrSyntax
		}
	}()
	p := parser{rowOf(text)}
	deal = p.deal()
	p.mustEnd()
	return deal, 0, api.OK
}

// ParseExpr reads an expression's text; with an error the place.
func ParseExpr(text string) (expr api.Expr, place int, e api.Errno) {
	if len(text) > api.MaxSource {
		return api.Expr{}, 0, api.ErrLong
	}
	defer func() {
		if at, gaveUp := placeOf(recover()); gaveUp {
			expr, place, e = api.Expr{}, at, api.ErrSyntax
		}
	}()
	p := parser{rowOf(text)}
	expr = p.expr()
	p.mustEnd()
	return expr, 0, api.OK
}

func (p *parser) deal() api.Deal {
	var deal api.Deal
	p.must("deal")
	deal.Name = p.small()
	p.must("{", "start")
	deal.Start = p.date()
	p.must(";")
	if p.skip("holidays") {
		deal.Holidays = list(p, p.date)
		p.must(";")
	}
	if p.skip("observe") {
		deal.Names = list(p, p.capital)
		p.must(";")
	}
	for p.skip("def") {
		deal.Defs = append(deal.Defs, p.def())
	}
	p.must("contract")
	deal.Body = p.con()
	p.must(";", "}")
	return deal
}

func (p *parser) def() api.Def {
	var def api.Def
	def.Name = p.small()
	p.must("(")
	if !p.is(")") {
		def.Params = list(p, p.small)
	}
	p.must(")", "=")
	def.Body = p.expr()
	p.must(";")
	return def
}

// list reads one item or more, with a comma between each two.
func list[T any](p *parser, item func() T) []T {
	items := []T{item()}
	for p.skip(",") {
		items = append(items, item())
	}
	return items
}
