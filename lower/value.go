package lower

import "payoff/api"

// instructions: of the operators that have one of their own name, which does all that they do.
var instructions = [...]int{
	api.XNeg:   api.OpNeg,
	api.XNot:   api.OpNot,
	api.XAdd:   api.OpAdd,
	api.XSub:   api.OpSub,
	api.XMul:   api.OpMul,
	api.XDiv:   api.OpDiv,
	api.XMod:   api.OpMod,
	api.XLt:    api.OpLt,
	api.XLe:    api.OpLe,
	api.XGt:    api.OpGt,
	api.XGe:    api.OpGe,
	api.XEq:    api.OpEq,
	api.XNe:    api.OpNe,
	api.XMin:   api.OpMin,
	api.XMax:   api.OpMax,
	api.XAbs:   api.OpAbs,
	api.XRatio: api.OpRatio,
}

// value writes what puts a node's value on the stack.
func (w *writer) value(node int) {
	if w.now.kept.has(node) {
		w.gets.add(node)
		w.put(api.OpGet, w.slots[node], 0)
		return
	}
	w.workOut(w.form.Nodes[node])
	if w.keeps.has(node) {
		w.put(api.OpKeep, w.slotOf(node), 0)
		w.now.kept.add(node)
	}
}

// workOut writes a node's own code.
func (w *writer) workOut(x api.Node) {
	switch x.Op {
	case api.XNum:
		w.put(api.OpConst, w.pool.place[x.Num], 0)
	case api.XTrue:
		w.put(api.OpBool, 1, 0)
	case api.XFalse:
		w.put(api.OpBool, 0, 0)
	case api.XObs:
		w.put(api.OpObs, w.names.place[w.form.Names[x.Num]], w.day-x.Day)
	case api.XCell:
		w.put(api.OpLoad, w.cells.place[x.Num], 0)
	case api.XAnd:
		w.fork(x.A, func() { w.value(x.B) }, func() { w.put(api.OpBool, 0, 0) })
	case api.XOr:
		w.fork(x.A, func() { w.put(api.OpBool, 1, 0) }, func() { w.value(x.B) })
	case api.XIf:
		w.fork(x.A, func() { w.value(x.B) }, func() { w.value(x.C) })
	default:
		for _, kid := range kidsOf(x) {
			w.value(kid)
		}
		w.put(instructions[x.Op], x.Num, 0) // Num: the rounding of a ratio; the others have 0
	}
}

// fork writes what goes one of two ways, as a node is true or false.
func (w *writer) fork(test int, then, other func()) {
	w.value(test)
	fails := w.leap(api.OpZero)
	then()
	over := w.leap(api.OpJump)
	fails.land()
	other()
	over.land()
}
