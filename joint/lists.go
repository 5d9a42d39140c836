package joint

import (
	"cmp"
	"slices"

	"payoff/api"
	"payoff/lex"
)

// maxCells: a program may have more accumulators than a deal, as deals are joined.
const maxCells = 1 << 15

// tidy lays lists together, each item once, rising.
func tidy[T cmp.Ordered](lists ...[]T) []T {
	all := slices.Concat(lists...)
	slices.Sort(all)
	return slices.Compact(all)
}

// places tells where each item of a list stands in a tidy one that has them all.
func places[T cmp.Ordered](list, tidied []T) []int {
	at := make([]int, len(list))
	for n, item := range list {
		at[n], _ = slices.BinarySearch(tidied, item)
	}
	return at
}

// frameOf tells the join of programs without its days.
func frameOf(ps []api.Program) api.Program {
	var names, curs [][]string
	var pools [][]int
	var j api.Program
	for _, p := range ps {
		names = append(names, p.Names)
		curs = append(curs, p.Curs)
		pools = append(pools, p.Pool)
		j.Horizon = max(j.Horizon, p.Horizon)
		j.Cells += p.Cells
		j.Slots = max(j.Slots, p.Slots)
		j.Stack = max(j.Stack, p.Stack)
	}
	j.Names, j.Curs, j.Pool = tidy(names...), tidy(curs...), tidy(pools...)
	return j
}

// fits tells whether a join's lists and accumulators are not too many. (Its other numbers are those of a good program.)
func fits(j api.Program) bool {
	return len(j.Names) <= api.MaxNames && len(j.Curs) <= api.MaxCurs && len(j.Pool) <= api.MaxPool && j.Cells <= maxCells
}

// instructions counts those of a join ahead of its being made: it could be far too great.
func instructions(ps []api.Program) int {
	count := 0
	var days [][]int
	for _, p := range ps {
		own := make([]int, len(p.Days))
		for n, s := range p.Days {
			own[n] = s.Day
			count += len(s.Code) - 1
		}
		days = append(days, own)
	}
	ends := len(tidy(days...))
	return count + ends
}

// renamed tells what each of a good program's names becomes, and whether the pairs are right.
func renamed(names, pairs []string) ([]string, bool) {
	if len(pairs)%2 != 0 {
		return nil, false
	}
	list := slices.Clone(names)
	replaced := make([]bool, len(names))
	for pair := range slices.Chunk(pairs, 2) {
		at, known := slices.BinarySearch(names, pair[0])
		if !known || replaced[at] || !lex.Capital(pair[1]) {
			return nil, false
		}
		list[at], replaced[at] = pair[1], true
	}
	return list, true
}
