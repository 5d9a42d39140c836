package flow

import (
	"slices"

	"payoff/api"
)

// Merge lays lists that are ordered by day together by day; on one day the lists' order holds.
func Merge(lists ...[]api.Flow) ([]api.Flow, api.Errno) {
	for _, list := range lists {
		if !slices.IsSortedFunc(list, byDay) {
			return nil, api.ErrArg
		}
	}
	if len(lists) == 0 {
		return nil, api.OK
	}
	// One round at the least, so that the answer to a single list is new memory too.
	runs := mergePairs(lists)
	for len(runs) > 1 {
		runs = mergePairs(runs)
	}
	return runs[0], api.OK
}

// mergePairs lays each list together with its neighbour. A round halves the number of lists, so many short lists take few rounds.
func mergePairs(lists [][]api.Flow) [][]api.Flow {
	merged := make([][]api.Flow, (len(lists)+1)/2)
pairs:
	for i := range merged {
		first, second := lists[2*i], []api.Flow(nil)
		if 2*i+1 < len(lists) {
			second = lists[2*i+1]
		}
		run := make([]api.Flow, 0, len(first)+len(second))
		for k, f := range second {
			// On one day the earlier list comes first.
			for len(first) > 0 && first[0].Day <= f.Day {
				run, first = append(run, first[0]), first[1:]
			}
			if len(first) == 0 {
				merged[i] = append(run, second[k:]...)
				continue pairs
			}
			run = append(run, f)
		}
		merged[i] = append(run, first...)
	}
	return merged
}
