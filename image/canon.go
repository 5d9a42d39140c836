package image

import (
	"cmp"
	"slices"

	"payoff/api"
	"payoff/code"
	"payoff/lex"
)

// maxCells: a program has more cells than a deal may have, as deals are joined.
const maxCells = 1 << 15

// canonical looks at what is bounded first, so that the code's operands can be held against it.
func canonical(p api.Program) bool {
	return numbersFit(p) && listsFit(p) && daysFit(p) && codeFits(p)
}

func numbersFit(p api.Program) bool {
	return isWithin(p.Horizon, api.MaxHorizon) &&
		isWithin(p.Cells, maxCells) &&
		isWithin(p.Slots, api.MaxSlots) &&
		isWithin(p.Stack, api.MaxStack)
}

func isWithin(x, last int) bool { return x >= 0 && x <= last }

func listsFit(p api.Program) bool {
	return len(p.Names) <= api.MaxNames && each(p.Names, lex.Capital) && rises(p.Names) &&
		len(p.Curs) <= api.MaxCurs && each(p.Curs, lex.Currency) && rises(p.Curs) &&
		len(p.Pool) <= api.MaxPool && rises(p.Pool)
}

func each[T any](list []T, is func(T) bool) bool {
	return !slices.ContainsFunc(list, func(x T) bool { return !is(x) })
}

func rises[T cmp.Ordered](list []T) bool {
	for i := 1; i < len(list); i++ {
		if list[i] <= list[i-1] {
			return false
		}
	}
	return true
}

// daysFit looks at the segments without their instructions.
func daysFit(p api.Program) bool {
	ahead, instructions := -1, 0
	for _, s := range p.Days {
		if s.Day <= ahead || s.Day > p.Horizon {
			return false
		}
		ahead = s.Day
		instructions += len(s.Code)
	}
	return instructions <= api.MaxCode
}

func codeFits(p api.Program) bool {
	u := usesOf(p)
	for _, s := range p.Days {
		if !u.takeCode(s.Code) {
			return false
		}
	}
	return u.all()
}

// uses keeps which parts of a program's lists its code has named, and how many cells and slots it may name.
type uses struct {
	names, curs, pool []bool
	cells, slots      int
}

func usesOf(p api.Program) uses {
	return uses{
		names: make([]bool, len(p.Names)),
		curs:  make([]bool, len(p.Curs)),
		pool:  make([]bool, len(p.Pool)),
		cells: p.Cells,
		slots: p.Slots,
	}
}

// takeCode tells whether this may be a day's code, and notes what it names.
func (u *uses) takeCode(list []api.Instr) bool {
	last := len(list) - 1
	if last < 1 {
		return false
	}
	for n, i := range list {
		ends := i.Op == api.OpEnd
		if ends != (n == last) || code.Valid(i) != api.OK || !u.take(i) {
			return false
		}
	}
	return true
}

// take tells whether what an instruction names is there, and notes it.
func (u *uses) take(i api.Instr) bool {
	switch i.Op {
	case api.OpConst:
		return note(u.pool, i.A)
	case api.OpObs:
		return note(u.names, i.A)
	case api.OpFlow:
		return note(u.curs, i.A)
	case api.OpLoad, api.OpStore:
		return i.A < u.cells
	case api.OpKeep, api.OpGet:
		return i.A < u.slots
	}
	return true
}

func note(named []bool, at int) bool {
	if at >= len(named) {
		return false
	}
	named[at] = true
	return true
}

// all tells whether nothing stands in the lists that the code does not name.
func (u *uses) all() bool {
	return !slices.Contains(u.names, false) && !slices.Contains(u.curs, false) && !slices.Contains(u.pool, false)
}
