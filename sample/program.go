package sample

import (
	"cmp"
	"math"
	"slices"
	"strings"

	"payoff/api"
)

// Program makes a canonical program of up to 5 days. Whether its code could be run is left to chance.
func Program(chance Chance) api.Program {
	p := api.Program{
		Horizon: pick(chance, 0, chance(10), api.MaxHorizon),
		Cells:   pick(chance, 0, 1, 300, 1<<15),
		Slots:   pick(chance, 0, 1, 300, api.MaxSlots),
		Stack:   pick(chance, 0, 1, 300, api.MaxStack),
	}
	for range chance(6) {
		p.Days = append(p.Days, api.Segment{Day: chance(p.Horizon + 1)})
	}
	p.Days = slices.CompactFunc(
		slices.SortedFunc(slices.Values(p.Days), func(a, b api.Segment) int { return cmp.Compare(a.Day, b.Day) }),
		func(a, b api.Segment) bool { return a.Day == b.Day })
	if len(p.Days) > 0 {
		p.Names = rising(chance, "A", "A1", "A_", "S", "S0", strings.Repeat("X", api.MaxName), "Z9_")
		p.Curs = rising(chance, "AAA", "EUR", "EUS", "USD", "ZZZ")
		p.Pool = rising(chance, math.MinInt, math.MinInt+1, -129, -1, 0, 1, 63, 64, 127, 128, chance(1<<40), math.MaxInt-1, math.MaxInt)
	}
	fillCode(chance, p)
	return p
}

// rising takes some of a list, each once, in their order.
func rising[T cmp.Ordered](chance Chance, list ...T) []T {
	var some []T
	for range chance(len(list)) {
		some = append(some, pick(chance, list...))
	}
	slices.Sort(some)
	return slices.Compact(some)
}

// fillCode makes the code of a program's days, in which all that stands in its lists is named.
func fillCode(chance Chance, p api.Program) {
	for i := range p.Days {
		for range 1 + chance(9) {
			p.Days[i].Code = append(p.Days[i].Code, instruction(chance, p, 1+chance(api.OpFlow)))
		}
	}
	for _, op := range []int{api.OpConst, api.OpObs, api.OpFlow} {
		for a := range choices(p, op) {
			s := &p.Days[chance(len(p.Days))]
			s.Code = slices.Insert(s.Code, chance(len(s.Code)+1), api.Instr{Op: op, A: a})
		}
	}
	for i := range p.Days {
		p.Days[i].Code = append(p.Days[i].Code, api.Instr{Op: api.OpEnd})
	}
}

// instruction makes one with that Op, if the program has what it could name.
func instruction(chance Chance, p api.Program, op int) api.Instr {
	n := choices(p, op)
	if n == 0 {
		return api.Instr{Op: api.OpDrop}
	}
	i := api.Instr{Op: op, A: pick(chance, 0, chance(min(n, 200)), n-1)}
	if op == api.OpObs {
		i.B = pick(chance, 0, chance(200), api.MaxHorizon)
	}
	return i
}

// choices tells how many operands A an instruction may have in a program: one, which is 0, if it has none.
func choices(p api.Program, op int) int {
	switch op {
	case api.OpConst:
		return len(p.Pool)
	case api.OpBool:
		return 2
	case api.OpObs:
		return len(p.Names)
	case api.OpLoad, api.OpStore:
		return p.Cells
	case api.OpKeep, api.OpGet:
		return p.Slots
	case api.OpRatio:
		return api.HalfEven + 1
	case api.OpJump, api.OpZero:
		return api.MaxCode
	case api.OpFlow:
		return len(p.Curs)
	}
	return 1
}
