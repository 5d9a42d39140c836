package machine

import (
	"payoff/api"
	"payoff/num"
)

// deed: what an instruction does. The fault, if one comes, ends the machine.
type deed func(r *run, i api.Instr) api.Fault

// deeds: by Op.
func deeds() [api.OpFlow + 1]deed {
	return [...]deed{
		api.OpEnd:   (*run).end,
		api.OpConst: (*run).constant,
		api.OpBool:  (*run).truth,
		api.OpObs:   (*run).observe,
		api.OpLoad:  (*run).load,
		api.OpStore: (*run).store,
		api.OpKeep:  (*run).keep,
		api.OpGet:   (*run).get,
		api.OpDrop:  (*run).drop,
		api.OpAdd:   (*run).add,
		api.OpSub:   (*run).sub,
		api.OpMul:   (*run).mul,
		api.OpNeg:   (*run).neg,
		api.OpDiv:   (*run).div,
		api.OpMod:   (*run).mod,
		api.OpAbs:   (*run).abs,
		api.OpMin:   (*run).lesser,
		api.OpMax:   (*run).greater,
		api.OpRatio: (*run).ratio,
		api.OpLt:    (*run).lt,
		api.OpLe:    (*run).le,
		api.OpGt:    (*run).gt,
		api.OpGe:    (*run).ge,
		api.OpEq:    (*run).eq,
		api.OpNe:    (*run).ne,
		api.OpNot:   (*run).not,
		api.OpJump:  (*run).jump,
		api.OpZero:  (*run).zero,
		api.OpFlow:  (*run).flow,
	}
}

func (r *run) end(api.Instr) api.Fault {
	r.ended = true
	return api.NoFault
}

func (r *run) constant(i api.Instr) api.Fault {
	return r.put(r.of.program.Pool[i.A])
}

func (r *run) truth(i api.Instr) api.Fault {
	return r.put(i.A)
}

func (r *run) observe(i api.Instr) api.Fault {
	c := r.seen(i.B)[i.A]
	if !c.Has {
		return api.NoObs
	}
	return r.put(c.V)
}

func (r *run) load(i api.Instr) api.Fault {
	return r.put(r.of.now.Cells[i.A])
}

func (r *run) store(i api.Instr) api.Fault {
	r.of.now.Cells[i.A] = r.take()
	return api.NoFault
}

// keep makes room for a slot when it is first kept: a day may use few of those that the program has.
func (r *run) keep(i api.Instr) api.Fault {
	if missing := i.A + 1 - len(r.slots); missing > 0 {
		r.slots = append(r.slots, make([]int, missing)...)
	}
	r.slots[i.A] = r.top()
	return api.NoFault
}

func (r *run) get(i api.Instr) api.Fault {
	return r.put(r.slots[i.A])
}

func (r *run) drop(api.Instr) api.Fault {
	r.take()
	return api.NoFault
}

func (r *run) add(api.Instr) api.Fault { return r.result(num.Add(r.pair())) }
func (r *run) sub(api.Instr) api.Fault { return r.result(num.Sub(r.pair())) }
func (r *run) mul(api.Instr) api.Fault { return r.result(num.Mul(r.pair())) }
func (r *run) neg(api.Instr) api.Fault { return r.result(num.Neg(r.take())) }
func (r *run) div(api.Instr) api.Fault { return r.result(num.Div(r.pair())) }
func (r *run) mod(api.Instr) api.Fault { return r.result(num.Mod(r.pair())) }
func (r *run) abs(api.Instr) api.Fault { return r.result(num.Abs(r.take())) }

func (r *run) lesser(api.Instr) api.Fault {
	a, b := r.pair()
	return r.put(min(a, b))
}

func (r *run) greater(api.Instr) api.Fault {
	a, b := r.pair()
	return r.put(max(a, b))
}

func (r *run) ratio(i api.Instr) api.Fault {
	c := r.take()
	a, b := r.pair()
	return r.result(num.Ratio(a, b, c, i.A))
}

func (r *run) lt(api.Instr) api.Fault {
	a, b := r.pair()
	return r.answer(a < b)
}

func (r *run) le(api.Instr) api.Fault {
	a, b := r.pair()
	return r.answer(a <= b)
}

func (r *run) gt(api.Instr) api.Fault {
	a, b := r.pair()
	return r.answer(a > b)
}

func (r *run) ge(api.Instr) api.Fault {
	a, b := r.pair()
	return r.answer(a >= b)
}

func (r *run) eq(api.Instr) api.Fault {
	a, b := r.pair()
	return r.answer(a == b)
}

func (r *run) ne(api.Instr) api.Fault {
	a, b := r.pair()
	return r.answer(a != b)
}

func (r *run) not(api.Instr) api.Fault {
	return r.answer(r.take() == 0)
}

func (r *run) jump(i api.Instr) api.Fault {
	r.next += i.A
	return api.NoFault
}

func (r *run) zero(i api.Instr) api.Fault {
	if r.take() == 0 {
		return r.jump(i)
	}
	return api.NoFault
}

func (r *run) flow(i api.Instr) api.Fault {
	r.flows = append(r.flows, api.Flow{Day: r.of.now.Today, Cur: r.of.program.Curs[i.A], Amount: r.take()})
	return api.NoFault
}
