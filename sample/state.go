package sample

import (
	"math"
	"slices"

	"payoff/api"
)

// State makes a state of a program that can be run. No run need come to it.
func State(chance Chance, p api.Program) api.State {
	back := 0
	each(p.Days, api.OpObs, func(i *api.Instr) { back = max(back, i.B) })
	s := api.State{Today: chance(p.Horizon + 2), Cells: make([]int, p.Cells)}
	most, hasRun := 0, false
	for _, segment := range p.Days {
		if segment.Day < s.Today {
			most += len(segment.Code)
		}
		hasRun = hasRun || segment.Day == s.Today-1
	}
	s.Steps = pick(chance, 0, most, chance(most+1))
	if s.Today > 0 {
		for n := range s.Cells {
			s.Cells[n] = pick(chance, 0, chance(19)-9, math.MaxInt, math.MinInt)
		}
	}
	for _, row := range Rows(chance, min(s.Today, back), len(p.Names)) {
		s.Past = append(s.Past, fitted(row, len(p.Names)))
	}
	if hasRun && chance(4) == 0 {
		s.Fault, s.Day = api.Fault(1+chance(3)), s.Today-1
	}
	return s
}

// fitted makes a row one of a state.
func fitted(row []api.Cell, names int) []api.Cell {
	fit := make([]api.Cell, names)
	for n, c := range row {
		if c.Has {
			fit[n] = c
		}
	}
	return fit
}

// Spoil changes something of a state. It may still be one of its program, or become one of another.
func Spoil(chance Chance, s *api.State) {
	switch chance(9) {
	case 0:
		s.Today = odd(chance, s.Today)
	case 1:
		s.Steps = odd(chance, s.Steps)
	case 2:
		s.Fault = api.Fault(odd(chance, 3))
	case 3:
		s.Day = odd(chance, s.Day)
	case 4:
		s.Fault, s.Day = api.Fault(1+chance(4)), odd(chance, s.Today)
	case 5:
		s.Cells = changed(chance, s.Cells, 5)
	case 6:
		s.Past = changed(chance, s.Past, nil)
	case 7:
		for n := range s.Past {
			s.Past[n] = changed(chance, s.Past[n], api.Cell{Has: chance(2) == 0, V: chance(2)})
		}
	case 8:
		for n := range s.Cells {
			s.Cells[n] = chance(2)
		}
	}
}

// odd makes a number that may be right by chance.
func odd(chance Chance, around int) int {
	return pick(chance, around-1, around+1, -1, 0, 1, chance(30), math.MaxInt, math.MinInt)
}

// changed: a list with something more, or less, or in another's place.
func changed[T any](chance Chance, list []T, x T) []T {
	list = slices.Clone(list)
	at := chance(len(list) + 1)
	switch chance(3) {
	case 0:
		return slices.Insert(list, at, x)
	case 1:
		return slices.Delete(list, max(0, at-1), at)
	}
	if at < len(list) {
		list[at] = x
	}
	return list
}
