package legs

import (
	"payoff/api"
	"payoff/num"
)

// world is what an expression is looked at by: the observations, and the accumulators' numbers.
type world struct {
	rows  [][]api.Cell
	cells []int
}

// faultOf tells the fault with which an evaluation was left; NoFault, if it was not. Any other panic is not the evaluation's, and goes on.
func faultOf(cause any) api.Fault {
	switch cause := cause.(type) {
	case nil:
		return api.NoFault
	case api.Fault:
		return cause
	default:
		panic(cause)
	}
}

// sound gives a result on, or leaves the evaluation with its fault.
func sound(v int, fault api.Fault) int {
	if fault != api.NoFault {
		panic(fault)
	}
	return v
}

// value works out an expression, if it is not too great; it panics with the first fault.
func (w *world) value(e *api.X) int {
	if Nodes(*e) > mostNodes {
		return 0
	}
	return w.look(e)
}

func (w *world) look(e *api.X) int {
	if !wellShaped(e) {
		return 0
	}
	switch e.Op {
	case api.XNum:
		return e.Num
	case api.XTrue:
		return 1
	case api.XFalse:
		return 0
	case api.XObs:
		return w.observation(e.Day, e.Num)
	case api.XCell:
		return w.cell(e.Num)
	case api.XAnd:
		return truth(w.look(&e.Kids[0]) != 0 && w.look(&e.Kids[1]) != 0)
	case api.XOr:
		return truth(w.look(&e.Kids[0]) != 0 || w.look(&e.Kids[1]) != 0)
	case api.XIf:
		if w.look(&e.Kids[0]) != 0 {
			return w.look(&e.Kids[1])
		}
		return w.look(&e.Kids[2])
	}
	var v [3]int
	for i := range e.Kids {
		v[i] = w.look(&e.Kids[i])
	}
	return operate(e, v[0], v[1], v[2])
}

func (w *world) observation(day, observable int) int {
	if day < 0 || day >= len(w.rows) || observable < 0 || observable >= len(w.rows[day]) || !w.rows[day][observable].Has {
		panic(api.NoObs)
	}
	return w.rows[day][observable].V
}

func (w *world) cell(number int) int {
	if number < 0 || number >= len(w.cells) {
		return 0
	}
	return w.cells[number]
}

// operate tells what an operator makes of its kids' values: a, b and c, as far as it has them.
func operate(e *api.X, a, b, c int) int {
	switch e.Op {
	case api.XNeg:
		return sound(num.Neg(a))
	case api.XAbs:
		return sound(num.Abs(a))
	case api.XAdd:
		return sound(num.Add(a, b))
	case api.XSub:
		return sound(num.Sub(a, b))
	case api.XMul:
		return sound(num.Mul(a, b))
	case api.XDiv:
		return sound(num.Div(a, b))
	case api.XMod:
		return sound(num.Mod(a, b))
	case api.XRatio:
		return sound(num.Ratio(a, b, c, e.Num))
	case api.XMin:
		return min(a, b)
	case api.XMax:
		return max(a, b)
	}
	return truth(holds(e.Op, a, b))
}

// holds tells the truth of an operator that asks about numbers.
func holds(op, a, b int) bool {
	switch op {
	case api.XNot:
		return a == 0
	case api.XLt:
		return a < b
	case api.XLe:
		return a <= b
	case api.XGt:
		return a > b
	case api.XGe:
		return a >= b
	case api.XEq:
		return a == b
	default: // XNe
		return a != b
	}
}

func truth(holds bool) int {
	if holds {
		return 1
	}
	return 0
}
