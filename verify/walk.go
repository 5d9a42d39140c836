package verify

import (
	"payoff/api"
	"payoff/code"
)

// state: what is known ahead of an instruction, whichever way a run has come there.
type state struct {
	stack
	slots
}

// walk goes through a day's code, from the first instruction on.
type walk struct {
	day   int
	code  []api.Instr
	ahead []*state // by instruction; nil as long as none was handed to it
}

// enter stands ahead of a day's first instruction.
func enter(day api.Segment) *walk {
	w := &walk{day: day.Day, code: day.Code, ahead: make([]*state, len(day.Code))}
	w.ahead[0] = &state{stack: stack{top: &cell{}}}
	return w
}

// pass goes over an instruction, all ahead of it having been passed: it tells why it goes wrong, or hands the state behind it on.
func (w *walk) pass(at int) api.Errno {
	if w.ahead[at] == nil {
		return api.ErrDead
	}
	behind := *w.ahead[at]
	if e := behind.do(w.code[at], w.day); e != api.OK {
		return e
	}
	return w.handOn(at, behind)
}

// do makes the state ahead of an instruction the one behind it.
func (s *state) do(i api.Instr, day int) api.Errno {
	takes, _, _ := code.Effect(i.Op)
	if s.height < takes || i.Op == api.OpEnd && s.height > 0 {
		return api.ErrStack
	}
	taken := s.take(takes)
	if !takesAll(i.Op, taken) {
		return api.ErrSort
	}
	puts := rules[i.Op].puts
	switch i.Op {
	case api.OpKeep:
		puts = taken[0]
		s.keep(i.A, puts)
	case api.OpGet:
		if puts = s.kept(i.A); puts == none {
			return api.ErrSlot
		}
	case api.OpObs:
		if i.B > day {
			return api.ErrBack
		}
	}
	if puts != none {
		s.put(puts)
	}
	return api.OK
}

// handOn hands the state behind an instruction to those that may come next.
func (w *walk) handOn(at int, behind state) api.Errno {
	i, next := w.code[at], at+1
	jumps := i.Op == api.OpJump || i.Op == api.OpZero
	if jumps && next+i.A >= len(w.code) {
		return api.ErrJump
	}
	if i.Op != api.OpJump && i.Op != api.OpEnd {
		if e := w.hand(next, behind); e != api.OK {
			return e
		}
	}
	if jumps {
		return w.hand(next+i.A, behind)
	}
	return api.OK
}

// hand hands a state to an instruction, where it must fit the one that is there.
func (w *walk) hand(to int, handed state) api.Errno {
	there := w.ahead[to]
	switch {
	case there == nil:
		w.ahead[to] = &handed
	case there.height != handed.height:
		return api.ErrStack
	case there.stack != handed.stack:
		return api.ErrSort
	default:
		there.meet(handed.slots)
	}
	return api.OK
}
