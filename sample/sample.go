// Package sample makes deals, actions, observations, tables, programs and their states by chance, for the tests of the layers. (No layer calls it.)
package sample

import (
	"math"
	"slices"

	"payoff/api"
	"payoff/cal"
	"payoff/check"
)

// Chance tells a number from 0 up to, but not with, n. All that is made hangs on what it tells alone.
type Chance func(n int) int

// pick takes one of a list.
func pick[T any](chance Chance, list ...T) T {
	return list[chance(len(list))]
}

// Deal makes a deal that fits, is within the limits, and brings actions.
func Deal(chance Chance) api.Deal {
	const tries = 1000
	for range tries {
		d := attempt(chance)
		if m, e := check.Measure(d); e == api.OK && check.Within(m) == api.OK && m.Actions > 0 {
			return d
		}
	}
	return api.Deal{Name: "x", Start: api.Date{Y: 2024, M: 1, D: 1}, Body: payment("EUR", number(1))}
}

// attempt makes a deal that fits most of the time.
func attempt(chance Chance) api.Deal {
	m := &maker{chance: chance}
	m.Name = "x"
	m.Start = pick(chance, api.Date{Y: 2024, M: 1, D: 1}, api.Date{Y: 2023, M: 3, D: 31}, api.Date{Y: 1900, M: 1, D: 1})
	for range chance(4) {
		m.Holidays = append(m.Holidays, m.date(chance(40)))
	}
	m.Names = []string{"A", "B", "C"}[:chance(4)]
	m.Body = api.Con{Kind: api.CZero}
	for i := range chance(5) {
		m.define([]string{"f", "g", "h", "a"}[i])
	}
	m.Body = m.contract(place{}, 1+chance(4))
	return m.Deal
}

// Rows makes the observations of so many days, some of them missing, some rows too short, and some numbers as great as can be.
func Rows(chance Chance, days, observables int) [][]api.Cell {
	holes := chance(2) * 30 // half of all have none
	rows := make([][]api.Cell, days)
	for i := range rows {
		rows[i] = make([]api.Cell, observables)
		for j := range rows[i] {
			rows[i][j] = api.Cell{Has: holes == 0 || chance(holes) > 0, V: observed(chance)}
		}
		if holes > 0 && chance(holes) == 0 {
			rows[i] = rows[i][:chance(observables+1)]
		}
	}
	return rows
}

func observed(chance Chance) int {
	if chance(40) == 0 {
		return pick(chance, math.MaxInt, math.MinInt, math.MaxInt-1, 1<<32)
	}
	return chance(19) - 9
}

// Paying tells a contract whose payments are all of one currency, and otherwise are as they were.
func Paying(c api.Con, cur string) api.Con {
	if c.Kind == api.CPay {
		c.Cur = cur
	}
	c.Kids = slices.Clone(c.Kids)
	for i := range c.Kids {
		c.Kids[i] = Paying(c.Kids[i], cur)
	}
	return c
}

// maker is a deal that is being made, and what is known of its definitions so far.
type maker struct {
	chance Chance
	api.Deal
	known []known
	back  int // how far back the expressions that are made have looked
}

// known is what a call of a definition must fit.
type known struct {
	sort, reach int
}

// date tells the date of a day.
func (m *maker) date(day int) api.Date {
	start, _ := cal.Day(m.Start)
	date, _ := cal.Date(start + day)
	return date
}

// define makes a definition; one in four only passes a parameter on, if it has any.
func (m *maker) define(name string) {
	d := api.Def{Name: name, Params: []string{"a", "b", "c"}[:m.chance(4)]}
	var at place
	for _, name := range d.Params {
		at = at.bind(name, aNumber)
	}
	at.first = 2
	m.back = 0
	sort := pick(m.chance, aNumber, aNumber, aTruth)
	d.Body = m.expr(sort, at, 3)
	if len(d.Params) > 0 && m.chance(4) == 0 {
		sort, d.Body = aNumber, m.passing(at)
	}
	m.Defs = append(m.Defs, d)
	m.known = append(m.known, known{sort, m.back})
}

// passing makes a parameter, inside calls of the definitions so far or not.
func (m *maker) passing(at place) api.Expr {
	if e, ok := m.call(aNumber, at, 1); ok && m.chance(2) == 0 {
		return e
	}
	return api.Expr{Op: api.XName, Name: pick(m.chance, at.named(aNumber)...)}
}
