package table_test

import (
	"slices"
	"testing"

	"payoff/api"
	"payoff/table"
)

var none = api.Cell{}

func c(v int) api.Cell { return api.Cell{Has: true, V: v} }

func names(list ...string) []string { return list }

func row(cells ...api.Cell) []api.Cell { return cells }

func tab(names []string, rows ...[]api.Cell) api.Table { return api.Table{Names: names, Rows: rows} }

// rates is the table of example 1.
func rates() api.Table {
	return tab(names("RATE", "EURUSD"), row(c(425), c(1085)), row(none, none), row(c(-3), none))
}

func sameRows(a, b [][]api.Cell) bool {
	return slices.EqualFunc(a, b, func(a, b []api.Cell) bool { return slices.Equal(a, b) })
}

func same(a, b api.Table) bool { return slices.Equal(a.Names, b.Names) && sameRows(a.Rows, b.Rows) }

func isZero(t api.Table) bool { return t.Names == nil && t.Rows == nil }

// wantParse holds Parse(text) against a table, a place and an error.
func wantParse(t *testing.T, text string, want api.Table, place int, e api.Errno) {
	t.Helper()
	got, at, err := table.Parse(text)
	if !same(got, want) || at != place || err != e {
		t.Errorf("Parse(%.60q): %.60v, %d, %d, want %.60v, %d, %d", text, got, at, err, want, place, e)
	}
	if err != api.OK && !isZero(got) {
		t.Errorf("Parse(%.60q): a table with an error", text)
	}
}

func wantPrint(t *testing.T, x api.Table, want string, e api.Errno) {
	t.Helper()
	if got, err := table.Print(x); got != want || err != e {
		t.Errorf("Print(%.60v): %.60q, %d, want %.60q, %d", x, got, err, want, e)
	}
}

func TestExample1(t *testing.T) {
	wantParse(t, "# rates\nday RATE EURUSD\n0 425 1085\n\n2 -3 - # late", rates(), 0, api.OK)
	wantPrint(t, rates(), "day RATE EURUSD\n0 425 1085\n1 - -\n2 -3 -\n", api.OK)
}

func TestExample2(t *testing.T) {
	wantParse(t, "day", api.Table{}, 0, api.OK)
	wantPrint(t, api.Table{}, "day\n", api.OK)
	wantParse(t, "day\n0\n1", tab(nil, nil, nil), 0, api.OK)
	for _, x := range []struct {
		text  string
		place int
		e     api.Errno
	}{
		{"", 0, api.ErrCell},
		{"days A", 0, api.ErrCell},
		{"day a", 4, api.ErrName},
		{"day A A", 6, api.ErrName},
		{"day A\n0", 7, api.ErrCell},
		{"day A\n0\n1 1", 7, api.ErrCell},
		{"day A\n0 1 2", 10, api.ErrCell},
		{"day A\n00 1", 6, api.ErrCell},
		{"day A\n1 1\n1 2", 10, api.ErrCell},
		{"day A\n4096 1", 6, api.ErrLong},
		{"day A\n0 x", 8, api.ErrCell},
		{"day A\n0 --1", 8, api.ErrCell},
		{"day A\n-1 1", 6, api.ErrCell},
	} {
		wantParse(t, x.text, api.Table{}, x.place, x.e)
	}
}

func TestExample3(t *testing.T) {
	for _, x := range []struct {
		t api.Table
		e api.Errno
	}{
		{tab(names("A"), row()), api.ErrSize},
		{tab(names("a"), row(api.Cell{V: 1})), api.ErrName},
		{tab(names("A"), row(api.Cell{V: 1})), api.ErrCell},
	} {
		if e := table.Valid(x.t); e != x.e {
			t.Errorf("Valid(%v): %d, want %d", x.t, e, x.e)
		}
	}
}

func TestExample4(t *testing.T) {
	rows, e := table.Bind(rates(), names("EURUSD", "S"))
	if want := [][]api.Cell{{c(1085), none}, {none, none}, {none, none}}; !sameRows(rows, want) || e != api.OK {
		t.Errorf("Bind: %v, %d", rows, e)
	}
	if rows, e := table.Bind(rates(), names("x")); rows != nil || e != api.ErrName {
		t.Errorf("Bind(x): %v, %d", rows, e)
	}
	if x, e := table.Cut(rates(), 1); !same(x, tab(rates().Names, row(c(425), c(1085)))) || e != api.OK {
		t.Errorf("Cut(1): %v, %d", x, e)
	}
	if x, e := table.Cut(rates(), -1); !isZero(x) || e != api.ErrArg {
		t.Errorf("Cut(-1): %v, %d", x, e)
	}
	if x, e := table.Cut(rates(), 9); !same(x, rates()) || e != api.OK {
		t.Errorf("Cut(9): %v, %d", x, e)
	}
	want := []api.Pair{{Name: "EURUSD", V: 1}, {Name: "RATE", V: 1}, {Name: "EURUSD", V: 2}, {Name: "EURUSD", V: 3}, {Name: "RATE", V: 3}}
	for last, count := range []int{0, 2, 3, 5} {
		if p, e := table.Missing(rates(), names("EURUSD", "RATE"), last); !slices.Equal(p, want[:count]) || e != api.OK {
			t.Errorf("Missing up to %d: %v, %d", last, p, e)
		}
	}
}

func TestExample5(t *testing.T) {
	one, _ := table.Cut(rates(), 1)
	for last, want := range []bool{true, true, false, false} {
		if got := table.Agree(rates(), one, last); got != want {
			t.Errorf("Agree up to %d: %v", last, got)
		}
	}
	for _, last := range []int{-1 << 63, -1, 0, 1, 1 << 62, 1<<63 - 1} {
		if !table.Agree(tab(names("A")), tab(names("B")), last) {
			t.Errorf("Agree without rows up to %d: false", last)
		}
	}
}

func TestExample6(t *testing.T) {
	a := tab(names("A"), row(c(1)), row(c(2)))
	b := tab(names("B", "A"), row(c(9), none), row(none, c(5)), row(c(7), c(7)))
	want := tab(names("A", "B"), row(c(1), c(9)), row(c(5), none), row(c(7), c(7)))
	if got, e := table.Overlay(a, b); !same(got, want) || e != api.OK {
		t.Errorf("Overlay: %v, %d", got, e)
	}
}
