package dag

import "payoff/api"

// Sorts of values, as they stand in the rules.
const (
	unfit   = 0 // no sort: what is not well made
	aNumber = 'n'
	aTruth  = 't'
	asLast  = '=' // that of the last kid
)

// rule is what an operator asks of its kids, a sort each, and the sort that it then has.
type rule struct {
	kids string
	sort byte
}

// rules has a row for each operator of a leg.
var rules = [...]rule{
	api.XNum:   {"", aNumber},
	api.XTrue:  {"", aTruth},
	api.XFalse: {"", aTruth},
	api.XObs:   {"", aNumber},
	api.XCell:  {"", aNumber},
	api.XNeg:   {"n", aNumber},
	api.XAbs:   {"n", aNumber},
	api.XNot:   {"t", aTruth},
	api.XAdd:   {"nn", aNumber},
	api.XSub:   {"nn", aNumber},
	api.XMul:   {"nn", aNumber},
	api.XDiv:   {"nn", aNumber},
	api.XMod:   {"nn", aNumber},
	api.XMin:   {"nn", aNumber},
	api.XMax:   {"nn", aNumber},
	api.XRatio: {"nnn", aNumber},
	api.XLt:    {"nn", aTruth},
	api.XLe:    {"nn", aTruth},
	api.XGt:    {"nn", aTruth},
	api.XGe:    {"nn", aTruth},
	api.XEq:    {"nn", aTruth},
	api.XNe:    {"nn", aTruth},
	api.XAnd:   {"tt", aTruth},
	api.XOr:    {"tt", aTruth},
	api.XIf:    {"t==", asLast},
}

// ruleOf tells an operator's rule; of one that no leg has: no kids, and no sort.
func ruleOf(op int) rule {
	if op < 0 || op >= len(rules) {
		return rule{}
	}
	return rules[op]
}

// sortOver tells the sort of an operator over kids of such sorts, as many as it has.
func (r rule) sortOver(kids []byte) byte {
	if len(kids) == 0 {
		return r.sort
	}
	last := kids[len(kids)-1]
	for i, sort := range kids {
		if sort != meant(r.kids[i], last) {
			return unfit
		}
	}
	return meant(r.sort, last)
}

// meant tells the sort for which one stands in a rule, where the last kid has that sort.
func meant(written, last byte) byte {
	if written == asLast {
		return last
	}
	return written
}
