package machine_test

import (
	"math"
	"testing"

	"payoff/api"
)

// P1502: the edges of what is a state, one by one, of a program that looks two days back.
func TestEdgesOfStates(t *testing.T) {
	p := program(t, "names A B; curs EUR; horizon 4; cells 2; slots 0; stack 2; day 1; obs A 1; store 1; end; day 3; obs A 2; obs B 0; add; flow EUR; end")
	past := func(today int) [][]api.Cell {
		return [][]api.Cell{seen(1, 2), {{Has: true, V: 3}, {}}}[:max(0, min(today, 2))]
	}
	state := func(today int) api.State {
		s := api.State{Today: today, Cells: make([]int, 2), Past: past(today)}
		if today > 0 {
			s.Cells = []int{math.MinInt, math.MaxInt}
		}
		return s
	}
	// The most steps ahead of each day.
	for today, most := range []int{0, 0, 3, 3, 8, 8} {
		for steps := -1; steps < 12; steps++ {
			s := state(today)
			s.Steps = steps
			want := api.OK
			if steps < 0 || steps > most {
				want = api.ErrState
			}
			wantResume(t, p, s, want)
		}
	}
	for _, today := range []int{math.MinInt, -1, 6, 7, math.MaxInt} {
		wantResume(t, p, state(today), api.ErrState)
	}
	// A fault is one of the three, on the day ahead of Today, which has code.
	for today := range 6 {
		for fault := api.Fault(-1); fault <= 4; fault++ {
			for _, day := range []int{math.MinInt, -1, 0, 1, 2, 3, 4, 5, math.MaxInt} {
				s := state(today)
				s.Fault, s.Day = fault, day
				want := api.ErrState
				if fault == 0 && day == 0 || fault >= 1 && fault <= 3 && day == today-1 && (day == 1 || day == 3) {
					want = api.OK
				}
				wantResume(t, p, s, want)
			}
		}
	}
	// On day 0 all cells are 0; as many as the program has.
	for _, cells := range [][]int{nil, {0}, {0, 0, 0}, {1, 0}, {0, -1}, {0, 1, 0}} {
		wantResume(t, p, api.State{Cells: cells}, api.ErrState)
	}
	wantResume(t, p, api.State{Cells: []int{0, 0}}, api.OK)
	for _, cells := range [][]int{nil, {0}, {5}, {0, 0, 0}} {
		wantResume(t, p, api.State{Today: 1, Cells: cells, Past: past(1)}, api.ErrState)
	}
	// The rows: too few, too many, too short, too long, an odd cell.
	odd := api.Cell{Has: false, V: 1}
	for today := range 6 {
		for rows := range 4 {
			s := state(today)
			s.Past = [][]api.Cell{seen(1, 2), seen(3, 4), seen(5, 6), seen(7, 8)}[:rows]
			want := api.ErrState
			if rows == min(today, 2) {
				want = api.OK
			}
			wantResume(t, p, s, want)
		}
	}
	for _, row := range [][]api.Cell{nil, seen(1), seen(1, 2, 3), {odd, {}}, {{}, odd}, {{Has: true, V: 1}, odd}, {{}, {}, odd}} {
		for at := range 2 {
			s := state(3)
			s.Past[at] = row
			wantResume(t, p, s, api.ErrState)
		}
	}
	wantResume(t, p, api.State{Today: 3, Cells: []int{0, 0}, Past: [][]api.Cell{{{}, {}}, {{Has: true}, {}}}}, api.OK)
}

// P1503: a resumed machine looks back to the rows of its state, the oldest first.
func TestRowsOfAState(t *testing.T) {
	p := program(t, "names A; curs EUR; horizon 4; cells 0; slots 0; stack 1; day 4; obs A 3; flow EUR; obs A 2; flow EUR; obs A 1; flow EUR; obs A 0; flow EUR; end")
	m := wantResume(t, p, api.State{Today: 3, Past: [][]api.Cell{seen(1), seen(2), seen(3)}}, api.OK)
	wantDay(t, m, seen(4), nil, api.NoFault, api.OK)
	wantState(t, m, api.State{Today: 4, Past: [][]api.Cell{seen(2), seen(3), seen(4)}}, false)
	wantDay(t, m, seen(5, 6), eur(4, 2, 3, 4, 5), api.NoFault, api.OK)
	wantState(t, m, api.State{Today: 5, Steps: 9, Past: [][]api.Cell{seen(3), seen(4), seen(5)}}, true)
}

// P1503: Past grows up to the proof's Back, and not beyond it.
func TestPastGrows(t *testing.T) {
	p := program(t, "names A; horizon 9; cells 0; slots 0; stack 1; day 9; obs A 4; drop; end")
	m := started(t, p)
	var all [][]api.Cell
	for day := range 10 {
		wantState(t, m, api.State{Today: day, Past: all[max(0, len(all)-4):]}, false)
		all = append(all, seen(100+day))
		wantDay(t, m, all[day], nil, api.NoFault, api.OK)
	}
	wantState(t, m, api.State{Today: 10, Steps: 3, Past: all[6:]}, true)
}
