package sample

import (
	"maps"
	"math"
	"slices"

	"payoff/api"
	"payoff/code"
)

// Sound makes a program of up to 5 days that can be run: all that it takes off the stack is there, and is of the right sort, and its numbers are those that its code needs.
func Sound(chance Chance) api.Program {
	p := api.Program{
		Names:   []string{"A", "B_1", "S", "Z9"},
		Curs:    []string{"EUR", "JPY", "USD"},
		Pool:    []int{math.MinInt, -7, -1, 0, 1, 2, 5, 1 << 33, math.MaxInt},
		Horizon: chance(12),
	}
	for day := range p.Horizon + 1 {
		if len(p.Days) == 5 || chance(3) > 0 {
			continue
		}
		w := coder{chance: chance, day: day, kept: map[int]int{}}
		for range 1 + chance(3) {
			w.statement(1 + chance(3))
		}
		w.put(api.OpEnd, 0, 0)
		p.Days = append(p.Days, api.Segment{Day: day, Code: w.code})
		p.Stack = max(p.Stack, w.highest)
	}
	trim(&p)
	return p
}

// trim leaves in a program's lists what its code names, and tells how many slots and cells it names.
func trim(p *api.Program) {
	p.Pool = named(p.Days, api.OpConst, p.Pool)
	p.Names = named(p.Days, api.OpObs, p.Names)
	p.Curs = named(p.Days, api.OpFlow, p.Curs)
	for _, s := range p.Days {
		for _, i := range s.Code {
			switch i.Op {
			case api.OpKeep, api.OpGet:
				p.Slots = max(p.Slots, i.A+1)
			case api.OpLoad, api.OpStore:
				p.Cells = max(p.Cells, i.A+1)
			}
		}
	}
}

// named: what of a list the instructions with an Op name, which name it by its new place then.
func named[T any](days []api.Segment, op int, list []T) []T {
	uses := make([]int, len(list))
	each(days, op, func(i *api.Instr) { uses[i.A]++ })
	var left []T
	for n, use := range uses {
		if uses[n] = len(left); use > 0 {
			left = append(left, list[n])
		}
	}
	each(days, op, func(i *api.Instr) { i.A = uses[i.A] })
	return left
}

// each gives every instruction with an Op to a function.
func each(days []api.Segment, op int, told func(*api.Instr)) {
	for _, s := range days {
		for n := range s.Code {
			if s.Code[n].Op == op {
				told(&s.Code[n])
			}
		}
	}
}

// coder is a day's code that is being made.
type coder struct {
	chance          Chance
	day             int
	code            []api.Instr
	height, highest int
	kept            map[int]int // the sort of each slot that is surely kept
}

// put puts an instruction behind the code, and tells its place.
func (w *coder) put(op, a, b int) int {
	takes, puts, _ := code.Effect(op)
	w.height += puts - takes
	w.highest = max(w.highest, w.height)
	w.code = append(w.code, api.Instr{Op: op, A: a, B: b})
	return len(w.code) - 1
}

// land lets jumps go to the place behind the code.
func (w *coder) land(jumps ...int) {
	for _, at := range jumps {
		w.code[at].A = len(w.code) - at - 1
	}
}

// statement makes code that leaves the stack as it was.
func (w *coder) statement(depth int) {
	kind := w.chance(6)
	switch {
	case kind == 0:
		w.value(pick(w.chance, aNumber, aTruth), depth)
		w.put(api.OpDrop, 0, 0)
	case kind == 1:
		w.value(aNumber, depth)
		w.put(api.OpStore, pick(w.chance, 0, 1, w.chance(200)), 0)
	case kind <= 3 && depth > 0:
		other := func() { w.statement(depth - 1) }
		w.fork(depth-1, other, pick(w.chance, nil, func() {}, other))
	default:
		w.value(aNumber, depth)
		w.put(api.OpFlow, w.chance(3), 0)
	}
}

// fork makes code that goes one way if some tests hold, and else another one, which may be nil: none.
func (w *coder) fork(depth int, then, other func()) {
	w.value(aTruth, depth)
	tests := []int{w.put(api.OpZero, 0, 0)}
	height, kept := w.height, maps.Clone(w.kept)
	if w.chance(3) == 0 {
		w.value(aTruth, depth)
		tests = append(tests, w.put(api.OpZero, 0, 0))
	}
	kept = shared(kept, w.kept)
	then()
	if other != nil {
		over := w.put(api.OpJump, 0, 0)
		w.land(tests...)
		tests = []int{over}
		w.height = height
		w.kept, kept = kept, w.kept
		other()
	}
	w.land(tests...)
	w.kept = shared(kept, w.kept)
}

// shared: the slots that both sets have with the same sort.
func shared(one, two map[int]int) map[int]int {
	both := maps.Clone(one)
	maps.DeleteFunc(both, func(slot, sort int) bool { return two[slot] != sort })
	return both
}

// value makes code that puts a value on the stack, and may keep it.
func (w *coder) value(sort, depth int) {
	switch {
	case depth <= 0 || w.chance(4) == 0:
		w.leaf(sort)
	case w.chance(5) == 0:
		either := func() { w.value(sort, depth-1) }
		w.fork(depth-1, either, either)
	case sort == aTruth && w.chance(3) == 0:
		w.value(aTruth, depth-1)
		w.put(api.OpNot, 0, 0)
	case sort == aTruth:
		w.parts(2, depth-1)
		w.put(api.OpLt+w.chance(api.OpNe-api.OpLt+1), 0, 0)
	default:
		w.number(depth)
	}
	if w.chance(4) == 0 {
		slot := pick(w.chance, 0, 1, w.chance(6), w.chance(100))
		w.put(api.OpKeep, slot, 0)
		w.kept[slot] = sort
	}
}

// parts makes so many numbers.
func (w *coder) parts(count, depth int) {
	for range count {
		w.value(aNumber, depth)
	}
}

// number makes code that works a number out of others.
func (w *coder) number(depth int) {
	op := pick(w.chance, api.OpAdd, api.OpSub, api.OpMul, api.OpNeg, api.OpDiv, api.OpMod, api.OpAbs, api.OpMin, api.OpMax, api.OpRatio)
	takes, _, _ := code.Effect(op)
	w.parts(takes, depth-1)
	rounding := 0
	if op == api.OpRatio {
		rounding = w.chance(api.HalfEven + 1)
	}
	w.put(op, rounding, 0)
}

// leaf makes the one instruction of a value.
func (w *coder) leaf(sort int) {
	var slots []int
	for slot, kept := range w.kept {
		if kept == sort {
			slots = append(slots, slot)
		}
	}
	slices.Sort(slots)
	switch kind := w.chance(4); {
	case len(slots) > 0 && kind < 2:
		w.put(api.OpGet, pick(w.chance, slots...), 0)
	case sort == aTruth:
		w.put(api.OpBool, w.chance(2), 0)
	case kind == 0:
		w.put(api.OpLoad, w.chance(4), 0)
	case kind == 1:
		w.put(api.OpObs, w.chance(4), w.chance(w.day+1))
	default:
		w.put(api.OpConst, pick(w.chance, w.chance(9), 4, 5, 6), 0)
	}
}
