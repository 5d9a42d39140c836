package build

import (
	"cmp"
	"slices"

	"payoff/api"
	"payoff/image"
	"payoff/verify"
)

// withProgram reads an image, and hands its program on if it can be run.
func withProgram(b []byte, use func(api.Program) api.Errno) api.Errno {
	p, _, e := image.Decode(b)
	if e != api.OK {
		return e
	}
	if _, _, _, e = verify.Verify(p); e != api.OK {
		return e
	}
	return use(p)
}

// readsOf tells the observations that a program's instructions read, each once, by day and name.
func readsOf(p api.Program) []api.Pair {
	var pairs []api.Pair
	for _, segment := range p.Days {
		for _, i := range segment.Code {
			if i.Op == api.OpObs {
				pairs = append(pairs, api.Pair{Name: p.Names[i.A], V: segment.Day - i.B})
			}
		}
	}
	slices.SortFunc(pairs, byDayAndName)
	return slices.Compact(pairs)
}

func byDayAndName(a, b api.Pair) int {
	return cmp.Or(cmp.Compare(a.V, b.V), cmp.Compare(a.Name, b.Name))
}
