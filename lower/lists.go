package lower

import (
	"cmp"
	"slices"

	"payoff/api"
)

// list: a list of a program, rising, with the place of each item in it.
type list[T cmp.Ordered] struct {
	items []T
	place map[T]int
}

// rising makes a list of all that is named, each once.
func rising[T cmp.Ordered](named []T) list[T] {
	l := list[T]{items: slices.Compact(slices.Sorted(slices.Values(named))), place: map[T]int{}}
	for place, item := range l.items {
		l.place[item] = place
	}
	return l
}

// lists: all that a form's code names. Cells are named by numbers of their own, so that a program has none that it does not need.
type lists struct {
	names, curs list[string]
	pool, cells list[int]
}

// listsOf tells the lists of a valid form.
func listsOf(n api.Normal) lists {
	var names, curs []string
	var pool, cells []int
	for _, x := range n.Nodes {
		switch x.Op {
		case api.XNum:
			pool = append(pool, x.Num)
		case api.XObs:
			names = append(names, n.Names[x.Num])
		case api.XCell:
			cells = append(cells, x.Num)
		}
	}
	for _, a := range n.Actions {
		switch {
		case a.E == none:
			// It neither flows nor sets.
		case a.Kind == api.ActFlow:
			curs = append(curs, a.Cur)
		default:
			cells = append(cells, a.Cell)
		}
	}
	return lists{names: rising(names), curs: rising(curs), pool: rising(pool), cells: rising(cells)}
}

// frame tells a program with these lists, and no days yet.
func (l *lists) frame() api.Program {
	return api.Program{Names: l.names.items, Curs: l.curs.items, Pool: l.pool.items, Cells: len(l.cells.items)}
}
