package table

import "payoff/api"

// Agree tells whether two tables say the same of each name on each day up to last, with it.
func Agree(a api.Table, b api.Table, last int) bool {
	return confirms(a, b, last) && confirms(b, a, last)
}

// confirms tells whether each observation that t has up to last is other's too.
func confirms(t, other api.Table, last int) bool {
	firsts := columnsOf(t.Names, t.Names)
	partners := columnsOf(t.Names, other.Names)
	for day, row := range t.Rows {
		if day > last {
			break
		}
		beside := rowOn(other, day)
		// Of any table, row by row no further than the row goes: many names over many short rows stay quick.
		for column := range min(len(row), len(t.Names)) {
			isFirst := firsts[column] == column
			if cell := row[column]; isFirst && cell.Has && cell != cellIn(beside, partners[column]) {
				return false
			}
		}
	}
	return true
}
