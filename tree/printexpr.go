package tree

import (
	"strconv"
	"strings"

	"payoff/api"
	"payoff/cal"
)

// levelOf tells how loose an expression of an operator is.
func levelOf(op int) int {
	switch op {
	case api.XIf:
		return levelIf
	case api.XNeg, api.XNot:
		return levelSign
	}
	if o, found := operatorOf(op); found {
		return o.level
	}
	return levelAtom
}

// operatorOf tells which one stands between the two operands of an expression, if one does.
func operatorOf(op int) (operator, bool) {
	for _, o := range operators {
		if o.op == op {
			return o, true
		}
	}
	return operator{}, false
}

func exprPieces(e *api.Expr) []piece {
	kid := func(number, least int) piece { return piece{expr: &e.Kids[number], least: least} }
	switch e.Op {
	case api.XNeg:
		return []piece{say("-"), kid(0, levelSign)}
	case api.XNot:
		return []piece{say("!"), kid(0, levelSign)}
	case api.XIf:
		return []piece{kid(0, levelOr), say(" ? "), kid(1, levelIf), say(" : "), kid(2, levelIf)}
	case api.XMin:
		return callPieces("min", e.Kids, "")
	case api.XMax:
		return callPieces("max", e.Kids, "")
	case api.XAbs:
		return callPieces("abs", e.Kids, "")
	case api.XRatio:
		return callPieces("ratio", e.Kids, ", "+modes[e.Num])
	case api.XCall:
		return callPieces(e.Name, e.Kids, "")
	}
	if o, found := operatorOf(e.Op); found {
		return []piece{kid(0, o.first()), say(" ", o.mark, " "), kid(1, o.second())}
	}
	return []piece{say(leafText(e))}
}

// callPieces tells a name with its arguments, and what stands behind these.
func callPieces(name string, kids []api.Expr, behind string) []piece {
	pieces := []piece{say(name, "(")}
	for i := range kids {
		if i > 0 {
			pieces = append(pieces, say(", "))
		}
		pieces = append(pieces, open(&kids[i]))
	}
	return append(pieces, say(behind, ")"))
}

// leafText tells an expression that has no others under it.
func leafText(e *api.Expr) string {
	switch e.Op {
	case api.XTrue:
		return "true"
	case api.XFalse:
		return "false"
	case api.XDay:
		return "day"
	case api.XName:
		return e.Name
	case api.XObs:
		return e.Name + backText(e.Num)
	case api.XDate:
		return dateText(e.Dates[0])
	case api.XThird:
		return "thirty(" + joined(e.Dates, dateText) + ")"
	}
	return strconv.Itoa(e.Num)
}

func backText(days int) string {
	if days == 0 {
		return ""
	}
	return "[-" + strconv.Itoa(days) + "]"
}

func dateText(d api.Date) string {
	text, _ := cal.Text(d)
	return text
}

func joined[T any](list []T, text func(T) string) string {
	var texts []string
	for _, item := range list {
		texts = append(texts, text(item))
	}
	return strings.Join(texts, ", ")
}
