package tree

import (
	"strconv"

	"payoff/api"
)

func conPieces(c *api.Con) []piece {
	expr := func(number int) piece { return open(&c.Exprs[number]) }
	kid := func(number int) piece { return piece{con: &c.Kids[number], prim: true} }
	switch c.Kind {
	case api.CPay:
		return []piece{say("pay(", c.Cur, ", "), expr(0), say(")")}
	case api.CGive:
		return []piece{say("give "), kid(0)}
	case api.CScale:
		return []piece{say("scale("), expr(0), say(") "), kid(0)}
	case api.CDelay:
		return []piece{say("delay(", strconv.Itoa(c.Num), ") "), kid(0)}
	case api.CAt:
		return []piece{say("at(", dateText(c.Date), ") "), kid(0)}
	case api.CAnd:
		return []piece{{con: &c.Kids[0]}, say(" and "), kid(1)}
	case api.CIf:
		return []piece{say("if("), expr(0), say(") "), kid(0), say(" else "), kid(1)}
	case api.CLet:
		return []piece{say("let ", c.Name, " = "), expr(0), say(" in "), kid(0)}
	case api.CFor:
		return []piece{say("for ", c.Name, " in ", rangeText(c.Range), " "), kid(0)}
	case api.CAccum:
		return []piece{say("accumulate ", c.Name, " = "), expr(0),
			say(" for ", c.Loop, " in ", rangeText(c.Range), " by "), expr(1), say(" then "), kid(0)}
	case api.CWhen:
		return []piece{say("when("), expr(0), say(") within ", strconv.Itoa(c.Num), " "), kid(0), say(" else "), kid(1)}
	}
	return []piece{say("zero")}
}

func rangeText(r api.Range) string {
	if r.Kind == api.RangeDays {
		return strconv.Itoa(r.Lo) + ".." + strconv.Itoa(r.Hi) + stepText(r.By)
	}
	return "every " + strconv.Itoa(r.Ten.N) + units[r.Ten.Unit] +
		" from " + dateText(r.From) + " to " + dateText(r.To) + convText(r.Conv)
}

func stepText(by int) string {
	if by < leastStep {
		return ""
	}
	return " step " + strconv.Itoa(by)
}

func convText(conv int) string {
	if conv == api.Unadjusted {
		return ""
	}
	return " " + conventions[conv]
}
