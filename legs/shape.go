package legs

import "payoff/api"

// mostNodes is how great an expression is looked at. One that is made by hand, of lists that stand in it at many places (or in themselves), may have more nodes than anyone could go through.
const mostNodes = 1 << 20

// wellShaped tells whether an expression's operator is one of a leg, and has as many kids as that has.
func wellShaped(e *api.X) bool {
	return len(e.Kids) == kidsOf(e.Op)
}

// kidsOf tells how many kids an operator has in a leg; -1, if it is none there.
func kidsOf(op int) int {
	switch op {
	case api.XNum, api.XTrue, api.XFalse, api.XObs, api.XCell:
		return 0
	case api.XNeg, api.XNot, api.XAbs:
		return 1
	case api.XAdd, api.XSub, api.XMul, api.XDiv, api.XMod, api.XMin, api.XMax, api.XAnd, api.XOr,
		api.XLt, api.XLe, api.XGt, api.XGe, api.XEq, api.XNe:
		return 2
	case api.XIf, api.XRatio:
		return 3
	}
	return -1
}

// copyOf makes an expression anew, so that it stays as it is whatever becomes of the lists that it was made of.
func copyOf(e *api.X) api.X {
	copied := *e
	copied.Kids = make([]api.X, len(e.Kids))
	for i := range e.Kids {
		copied.Kids[i] = copyOf(&e.Kids[i])
	}
	return copied
}

// giveReads gives what an expression may read, and tells whether more is wanted.
func giveReads(e *api.X, yield func(int, int) bool) bool {
	if !wellShaped(e) {
		return true
	}
	if e.Op == api.XObs {
		return yield(e.Num, e.Day)
	}
	for i := range e.Kids {
		if !giveReads(&e.Kids[i], yield) {
			return false
		}
	}
	return true
}
