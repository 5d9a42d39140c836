package table_test

import (
	"fmt"
	"strings"
	"testing"

	"payoff/api"
	"payoff/table"
)

var stained = api.Cell{V: 1}

// manyNames gives n capital names, from the number first on.
func manyNames(first, n int) []string {
	var list []string
	for i := range n {
		list = append(list, fmt.Sprintf("N%d", first+i))
	}
	return list
}

// wide gives a table of n names and so many rows of missing cells.
func wide(n, rows int) api.Table {
	t := api.Table{Names: manyNames(0, n), Rows: make([][]api.Cell, rows)}
	for day := range t.Rows {
		t.Rows[day] = make([]api.Cell, n)
	}
	return t
}

// wrongTables gives tables with what Valid answers: each error, alone and ahead of those behind it.
func wrongTables() []struct {
	t api.Table
	e api.Errno
} {
	var list []struct {
		t api.Table
		e api.Errno
	}
	add := func(e api.Errno, t api.Table) {
		list = append(list, struct {
			t api.Table
			e api.Errno
		}{t, e})
	}
	add(api.ErrSize, tab(names("A"), row()))
	add(api.ErrSize, tab(nil, row(none)))
	add(api.ErrSize, tab(names("A"), row(none), row(none, none)))
	add(api.ErrSize, tab(names("A", "A"), row(stained, none), row(none)))
	long := wide(65, 4097)
	long.Rows[4096] = row()
	add(api.ErrSize, long)
	add(api.ErrLong, wide(65, 0))
	add(api.ErrLong, wide(0, 4097))
	add(api.ErrLong, wide(64, 4097))
	twice := wide(65, 1)
	twice.Names[64], twice.Names[3], twice.Rows[0][5] = "N1", "x", stained
	add(api.ErrLong, twice)
	low := wide(1, 4097)
	low.Names[0], low.Rows[0][0] = "low", stained
	add(api.ErrLong, low)
	add(api.ErrName, tab(names("A", "B", "A")))
	add(api.ErrName, tab(names("A", "A"), row(stained, stained)))
	add(api.ErrName, tab(names("A", ""), row(none, stained)))
	last := wide(64, 1)
	last.Names[63] = "N0"
	add(api.ErrName, last)
	add(api.ErrCell, tab(names("A"), row(c(0)), row(api.Cell{V: -1})))
	add(api.ErrCell, tab(names("A", "B"), row(c(7), api.Cell{V: -1 << 63})))
	full := wide(64, 4096)
	full.Rows[4095][63] = stained
	add(api.ErrCell, full)
	return list
}

// soundTables gives tables that Valid takes.
func soundTables() []api.Table {
	return []api.Table{
		{},
		{Names: []string{}, Rows: [][]api.Cell{}},
		tab(names("A")),
		tab(nil, nil, row(), nil),
		tab(names("A"), row(none)),
		tab(names("A"), row(c(0))),
		tab(names("Z9_", "A", "AA"), row(c(-1<<63), none, c(1<<63-1)), row(none, c(-1), none)),
		tab(names(strings.Repeat("N", 31))),
		rates(),
		wide(64, 3),
		wide(0, 4096),
		wide(64, 4096),
	}
}

// P501
func TestValid(t *testing.T) {
	for i, x := range wrongTables() {
		if e := table.Valid(x.t); e != x.e {
			t.Errorf("wrong table %d: %d, want %d", i, e, x.e)
		}
	}
	for i, x := range soundTables() {
		if e := table.Valid(x); e != api.OK {
			t.Errorf("sound table %d: %d", i, e)
		}
	}
}

// plainName tells a capital name by the chapter's words.
func plainName(s string) bool {
	const letters, others = "ABCDEFGHIJKLMNOPQRSTUVWXYZ", "0123456789_"
	if len(s) < 1 || len(s) > 31 || !strings.Contains(letters, s[:1]) {
		return false
	}
	for i := range len(s) {
		if !strings.Contains(letters+others, s[i:i+1]) {
			return false
		}
	}
	return true
}

// someNames gives texts that may be capital names: all of up to two bytes, and some of the edges.
func someNames() []string {
	list := []string{"", strings.Repeat("Q", 30), strings.Repeat("Q", 31), strings.Repeat("Q", 32), strings.Repeat("Q", 1<<16), strings.Repeat("Q", 30) + "q", "\u00c4", "A\u00c4", "AB CD", "day", "DAY", "A-B"}
	for i := range 256 {
		list = append(list, string([]byte{byte(i)}))
		for j := range 256 {
			list = append(list, string([]byte{byte(i), byte(j)}))
		}
	}
	return list
}

// P501, P505, P509
func TestCapitalNames(t *testing.T) {
	for _, s := range someNames() {
		want := api.ErrName
		if plainName(s) {
			want = api.OK
		}
		if e := table.Valid(tab(names(s))); e != want {
			t.Errorf("Valid of the name %.40q: %d", s, e)
		}
		if _, e := table.Bind(rates(), names("A", s)); e != want {
			t.Errorf("Bind(%.40q): %d", s, e)
		}
		if _, e := table.Missing(rates(), names("A", s), 0); e != want {
			t.Errorf("Missing(%.40q): %d", s, e)
		}
	}
}

// P503, P505, P506, P508, P509
func TestWrongTablesAreRefused(t *testing.T) {
	for i, x := range wrongTables() {
		if s, e := table.Print(x.t); s != "" || e != x.e {
			t.Errorf("Print of wrong table %d: %.40q, %d, want %d", i, s, e, x.e)
		}
		for _, asked := range [][]string{nil, {"A"}, {"x"}} {
			if rows, e := table.Bind(x.t, asked); rows != nil || e != x.e {
				t.Errorf("Bind of wrong table %d: %.40v, %d, want %d", i, rows, e, x.e)
			}
			if p, e := table.Missing(x.t, asked, 3660); p != nil || e != x.e {
				t.Errorf("Missing of wrong table %d: %.40v, %d, want %d", i, p, e, x.e)
			}
		}
		for _, rows := range []int{0, 1, 1 << 62} {
			if y, e := table.Cut(x.t, rows); !isZero(y) || e != x.e {
				t.Errorf("Cut(%d) of wrong table %d: %.40v, %d, want %d", rows, i, y, e, x.e)
			}
		}
		for j, other := range soundTables() {
			if y, e := table.Overlay(x.t, other); !isZero(y) || e != x.e {
				t.Errorf("Overlay of wrong table %d and sound table %d: %d, want %d", i, j, e, x.e)
			}
			if y, e := table.Overlay(other, x.t); !isZero(y) || e != x.e {
				t.Errorf("Overlay of sound table %d and wrong table %d: %d, want %d", j, i, e, x.e)
			}
		}
		for j, y := range wrongTables() {
			if _, e := table.Overlay(x.t, y.t); e != x.e {
				t.Errorf("Overlay of wrong tables %d and %d: %d, want %d", i, j, e, x.e)
			}
		}
	}
}
