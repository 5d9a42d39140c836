package table_test

import (
	"slices"
	"testing"

	"payoff/api"
	"payoff/table"
)

// roomy gives a copy of the table all of whose lists have spare room, with marks in it.
func roomy(t api.Table) api.Table {
	x := api.Table{Names: withRoom(t.Names, "mark")}
	var rows [][]api.Cell
	for _, cells := range t.Rows {
		rows = append(rows, withRoom(cells, c(77)))
	}
	x.Rows = withRoom(rows, row(c(78)))
	return x
}

func withRoom[T any](list []T, mark T) []T {
	return append(slices.Clone(list), mark, mark, mark)[:len(list)]
}

// isAsItWas tells whether a table that roomy gave is still as it was, its spare room included.
func isAsItWas(x, before api.Table) bool {
	y := roomy(before)
	n, d := len(before.Names)+3, len(before.Rows)+3
	if !same(x, before) || !slices.Equal(x.Names[:n], y.Names[:n]) || !sameRows(x.Rows[:d], y.Rows[:d]) {
		return false
	}
	for day, cells := range x.Rows {
		width := len(before.Rows[day]) + 3
		if !slices.Equal(cells[:width], y.Rows[day][:width]) {
			return false
		}
	}
	return true
}

// spoil writes over all of a table, its spare room included.
func spoil(x api.Table) {
	overwrite(x.Names, "spoilt")
	spoilRows(x.Rows)
}

func spoilRows(rows [][]api.Cell) {
	for _, cells := range rows {
		overwrite(cells, c(666))
	}
	overwrite(rows, row(c(667)))
}

func overwrite[T any](list []T, with T) {
	list = list[:cap(list)]
	for i := range list {
		list[i] = with
	}
}

// areApart writes over the rows one by one, spare room included, and tells whether each leaves the others as they were.
func areApart(rows [][]api.Cell) bool {
	for i, cells := range rows {
		before := make([][]api.Cell, len(rows))
		for j := range rows {
			before[j] = slices.Clone(rows[j])
		}
		overwrite(cells, c(1000+i))
		for j := range rows {
			if j != i && !slices.Equal(rows[j], before[j]) {
				return false
			}
		}
	}
	return true
}

// anyTables gives tables of all kinds, small ones.
func anyTables() []api.Table {
	r := newChance()
	list := []api.Table{rates(), tab(names("A", "A"), row(stained, none)), tab(names("A"), row())}
	for range 200 {
		list = append(list, r.sound(), r.any())
	}
	return list
}

// P510
func TestNothingHandedInIsChanged(t *testing.T) {
	tables := anyTables()
	for i, before := range tables {
		other := tables[len(tables)-1-i]
		x, y := roomy(before), roomy(other)
		asked := withRoom(names("A", "EURUSD", "A"), "mark")
		table.Valid(x)
		table.Print(x)
		table.Bind(x, asked)
		table.Missing(x, asked, 3)
		table.Cut(x, 1)
		table.Cut(x, 9)
		table.Agree(x, y, 3)
		table.Overlay(x, y)
		if !isAsItWas(x, before) || !isAsItWas(y, other) || !slices.Equal(asked[:6], names("A", "EURUSD", "A", "mark", "mark", "mark")) {
			t.Fatalf("%v, %v: changed", before, other)
		}
	}
}

// P510
func TestAnswersAreNewMemory(t *testing.T) {
	tables := anyTables()
	for i, before := range tables {
		other := tables[len(tables)-1-i]
		x, y := roomy(before), roomy(other)
		asked := names("A", "B")
		for _, rows := range []int{0, 1, 9} {
			cut, _ := table.Cut(x, rows)
			spoil(cut)
		}
		laid, _ := table.Overlay(x, y)
		spoil(laid)
		bound, _ := table.Bind(x, asked)
		spoilRows(bound)
		pairs, _ := table.Missing(x, asked, 5)
		overwrite(pairs, api.Pair{Name: "spoilt"})
		if !isAsItWas(x, before) || !isAsItWas(y, other) || !slices.Equal(asked, names("A", "B")) {
			t.Fatalf("%v, %v: an answer shares memory with them", before, other)
		}
	}
}

// P510
func TestRowsShareNothing(t *testing.T) {
	tables := anyTables()
	for i, x := range tables {
		y := tables[len(tables)-1-i]
		cut, _ := table.Cut(x, 9)
		laid, _ := table.Overlay(x, y)
		bound, _ := table.Bind(x, names("A", "S", "B"))
		if !areApart(cut.Rows) || !areApart(laid.Rows) || !areApart(bound) {
			t.Fatalf("%v, %v: rows of an answer share memory", x, y)
		}
		text, e := table.Print(x)
		if e != api.OK {
			continue
		}
		if read, _, _ := table.Parse(text); !areApart(read.Rows) {
			t.Fatalf("Parse(%q): rows share memory", text)
		}
	}
	for _, text := range []string{"day A B\n3 1 2\n7 - -", "day A\n0 1\n1 2\n2 3"} {
		if read, _, e := table.Parse(text); e != api.OK || !areApart(read.Rows) {
			t.Errorf("Parse(%q): rows share memory, or %d", text, e)
		}
	}
}

// P510: nothing is kept from one call to the next.
func TestNothingIsKept(t *testing.T) {
	const text = "day A B\n0 1 2\n2 3 -"
	first, _, _ := table.Parse(text)
	want := tab(names("A", "B"), row(c(1), c(2)), row(none, none), row(c(3), none))
	spoil(first)
	wantParse(t, text, want, 0, api.OK)
	x := rates()
	cut, _ := table.Cut(x, 2)
	spoil(x)
	if !same(cut, tab(names("RATE", "EURUSD"), row(c(425), c(1085)), row(none, none))) {
		t.Errorf("Cut keeps what it was handed: %v", cut)
	}
}
