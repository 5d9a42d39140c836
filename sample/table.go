package sample

import (
	"slices"

	"payoff/api"
)

// Table makes a valid table of so many days, with most of these names, and some others, in any order. Some observations are missing.
func Table(chance Chance, names []string, days int) api.Table {
	var t api.Table
	put := func(name string) {
		t.Names = slices.Insert(t.Names, chance(len(t.Names)+1), name)
	}
	for _, name := range names {
		if chance(8) > 0 {
			put(name)
		}
	}
	for _, name := range []string{"OTHER", "Z_9"} {
		if chance(2) > 0 && len(t.Names) < api.MaxNames && !slices.Contains(names, name) {
			put(name)
		}
	}
	for _, row := range Rows(chance, days, len(t.Names)) {
		t.Rows = append(t.Rows, fitted(row, len(t.Names)))
	}
	return t
}
