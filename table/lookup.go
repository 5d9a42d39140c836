package table

import (
	"slices"

	"payoff/api"
)

// nowhere stands for the column of a name that a table does not have.
const nowhere = -1

// columnsOf tells, for each of names, its first column in head, or nowhere.
func columnsOf(names, head []string) []int {
	first := make(map[string]int, len(head))
	// From the last one on, so that the first of like names stays.
	for column, name := range slices.Backward(head) {
		first[name] = column
	}
	columns := make([]int, len(names))
	for i, name := range names {
		column, known := first[name]
		if !known {
			column = nowhere
		}
		columns[i] = column
	}
	return columns
}

// anyTwice tells whether one of names stands there twice.
func anyTwice(names []string) bool {
	for i, first := range columnsOf(names, names) {
		if first != i {
			return true
		}
	}
	return false
}

// rowOn tells a table's own row of a day from 0 on; without cells, if it has none.
func rowOn(t api.Table, day int) []api.Cell {
	if day >= len(t.Rows) {
		return nil
	}
	return t.Rows[day]
}

// cellIn tells the cell of a column; missing, if that is nowhere or the row is too short.
func cellIn(row []api.Cell, column int) api.Cell {
	if column == nowhere || column >= len(row) {
		return api.Cell{}
	}
	return row[column]
}

// newRow makes a row of so many cells, the first ones those of row, the further ones missing.
func newRow(row []api.Cell, width int) []api.Cell {
	cells := make([]api.Cell, width)
	copy(cells, row)
	return cells
}

func areCapitalNames(names []string) bool {
	for _, name := range names {
		if !isCapitalName(name) {
			return false
		}
	}
	return true
}

func isCapitalName(s string) bool {
	if s == "" || len(s) > api.MaxName || !isCapital(s[0]) {
		return false
	}
	for i := range len(s) {
		if !isCapital(s[i]) && !isDigit(s[i]) && s[i] != '_' {
			return false
		}
	}
	return true
}

func isCapital(c byte) bool {
	return c >= 'A' && c <= 'Z'
}

func isDigit(c byte) bool {
	return c >= '0' && c <= '9'
}
