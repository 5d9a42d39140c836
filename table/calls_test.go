package table_test

import (
	"fmt"
	"math/rand"
	"slices"
	"testing"

	"payoff/api"
	"payoff/table"
)

// plainCell is the cell of a name on a day by the chapter's words, in any table.
func plainCell(t api.Table, name string, day int) api.Cell {
	column := slices.Index(t.Names, name)
	if column < 0 || day < 0 || day >= len(t.Rows) || column >= len(t.Rows[day]) || !t.Rows[day][column].Has {
		return none
	}
	return t.Rows[day][column]
}

// chance makes tables of few names and numbers, so that they often agree.
type chance struct{ *rand.Rand }

func (r chance) cell() api.Cell {
	if r.Intn(3) == 0 {
		return none
	}
	return c(r.Intn(2))
}

func (r chance) sound() api.Table {
	list := []string{"A", "B", "C", "D"}
	r.Shuffle(len(list), func(i, j int) { list[i], list[j] = list[j], list[i] })
	t := api.Table{Names: list[:r.Intn(5)]}
	for range r.Intn(4) {
		cells := make([]api.Cell, len(t.Names))
		for i := range cells {
			cells[i] = r.cell()
		}
		t.Rows = append(t.Rows, cells)
	}
	return t
}

// any makes a table with names that stand there twice, rows of any length, missing cells with numbers.
func (r chance) any() api.Table {
	var t api.Table
	for range r.Intn(4) {
		t.Names = append(t.Names, []string{"A", "B", "", "x"}[r.Intn(4)])
	}
	for range r.Intn(4) {
		var cells []api.Cell
		for range r.Intn(5) {
			cells = append(cells, api.Cell{Has: r.Intn(3) > 0, V: r.Intn(2)})
		}
		t.Rows = append(t.Rows, cells)
	}
	return t
}

func (r chance) names() []string {
	var list []string
	for range r.Intn(6) {
		list = append(list, string(rune('A'+r.Intn(6))))
	}
	return list
}

func newChance() chance { return chance{rand.New(rand.NewSource(5))} }

// P505
func TestBind(t *testing.T) {
	r := newChance()
	for range 20000 {
		x, asked := r.sound(), r.names()
		want := make([][]api.Cell, len(x.Rows))
		for day := range want {
			for _, name := range asked {
				want[day] = append(want[day], plainCell(x, name, day))
			}
		}
		if got, e := table.Bind(x, asked); !sameRows(got, want) || e != api.OK {
			t.Fatalf("Bind(%v, %v): %v, %d", x, asked, got, e)
		}
	}
}

// P505
func TestBindManyNames(t *testing.T) {
	asked := slices.Repeat(names("EURUSD", "RATE", "RATE", "S"), 1000)
	got, e := table.Bind(rates(), asked)
	if len(got) != 3 || e != api.OK {
		t.Fatalf("%d rows, %d", len(got), e)
	}
	want := [][]api.Cell{{c(1085), c(425), c(425), none}, {none, none, none, none}, {none, c(-3), c(-3), none}}
	for day := range want {
		if !slices.Equal(got[day], slices.Repeat(want[day], 1000)) {
			t.Errorf("row %d differs", day)
		}
	}
	if got, e := table.Bind(rates(), append(asked, "s")); got != nil || e != api.ErrName {
		t.Errorf("a wrong name behind many: %d rows, %d", len(got), e)
	}
	if got, e := table.Bind(rates(), nil); !sameRows(got, [][]api.Cell{nil, nil, nil}) || e != api.OK {
		t.Errorf("no names: %v, %d", got, e)
	}
}

// P506
func TestCut(t *testing.T) {
	for i, x := range soundTables() {
		for _, rows := range []int{0, 1, 2, 3, 4095, 4096, 4097, 1<<63 - 1} {
			want := api.Table{Names: x.Names, Rows: x.Rows[:min(rows, len(x.Rows))]}
			if got, e := table.Cut(x, rows); !same(got, want) || e != api.OK {
				t.Errorf("Cut of sound table %d at %d: %d rows, %d", i, rows, len(got.Rows), e)
			}
		}
	}
	for _, x := range wrongTables() {
		for _, rows := range []int{-1, -1 << 63} {
			if got, e := table.Cut(x.t, rows); !isZero(got) || e != api.ErrArg {
				t.Errorf("Cut of a wrong table at %d: %d", rows, e)
			}
		}
	}
}

func plainAgree(a, b api.Table, last int) bool {
	for day := 0; day <= last; day++ {
		for _, name := range slices.Concat(a.Names, b.Names) {
			if plainCell(a, name, day) != plainCell(b, name, day) {
				return false
			}
		}
	}
	return true
}

// P507
func TestAgree(t *testing.T) {
	r := newChance()
	told := map[bool]int{}
	for range 200000 {
		a, b, last := r.any(), r.any(), r.Intn(6)-1
		if r.Intn(4) == 0 {
			a, b = r.sound(), r.sound()
		}
		want := plainAgree(a, b, last)
		if got := table.Agree(a, b, last); got != want {
			t.Fatalf("Agree(%v, %v, %d): %v", a, b, last, got)
		}
		if !table.Agree(a, a, last) {
			t.Fatalf("Agree of %v and itself, %d: false", a, last)
		}
		told[want]++
	}
	if told[true] < 1000 || told[false] < 1000 {
		t.Errorf("the tables hardly differ: %v", told)
	}
}

// P507
func TestAgreeEdges(t *testing.T) {
	for _, x := range []struct {
		a, b api.Table
		last int
		want bool
	}{
		{tab(names("A"), row(c(1))), tab(names("A"), row(c(2))), 0, false},
		{tab(names("A"), row(c(1))), tab(names("A"), row(c(2))), -1, true},
		{tab(names("A"), row(c(1))), tab(names("A"), row(c(2))), -1 << 63, true},
		{tab(names("A"), row(c(1))), tab(names("A"), row(c(2))), 1<<63 - 1, false},
		{tab(names("A"), row(c(0))), tab(names("A"), row(none)), 0, false},
		{tab(names("A"), row(c(0))), api.Table{}, 0, false},
		{api.Table{}, tab(names("A"), row(c(0))), 0, false},
		{tab(names("A"), row(stained)), tab(names("B"), row(none)), 0, true},
		{tab(names("A"), row(stained)), tab(names("A"), row(api.Cell{V: 2})), 0, true},
		{tab(names("A"), row(c(1), c(9))), tab(names("A"), row(c(1))), 0, true},
		{tab(names("A", "B"), row(c(1))), tab(names("A"), row(c(1))), 0, true},
		{tab(names("A", "A"), row(c(1), c(2))), tab(names("A"), row(c(1))), 0, true},
		{tab(names("A", "A"), row(none, c(2))), api.Table{}, 0, true},
		{tab(names("A", "A"), row(none, c(2))), tab(names("A"), row(c(2))), 0, false},
		{tab(names(""), row(c(1))), api.Table{}, 0, false},
		{tab(names("\xff"), row(c(1))), tab(names("\xff"), row(c(1))), 0, true},
		{tab(names("A", "B"), row(c(1), c(2))), tab(names("B", "A"), row(c(2), c(1))), 9, true},
		{tab(names("A"), row(c(1)), row(c(2))), tab(names("A"), row(c(1)), row(c(3))), 0, true},
		{tab(names("A"), row(c(1)), row(c(2))), tab(names("A"), row(c(1)), row(c(3))), 1, false},
		{tab(names("A"), row(none), row(none)), tab(names("A")), 1 << 40, true},
	} {
		if got := table.Agree(x.a, x.b, x.last); got != x.want {
			t.Errorf("Agree(%v, %v, %d): %v", x.a, x.b, x.last, got)
		}
		if got := table.Agree(x.b, x.a, x.last); got != x.want {
			t.Errorf("Agree(%v, %v, %d): %v", x.b, x.a, x.last, got)
		}
	}
}

// P507: the work goes with what is handed in, not with the names times the days.
func TestAgreeOfManyNamesAndDays(t *testing.T) {
	const many = 1 << 17
	x := api.Table{Names: manyNames(0, many), Rows: make([][]api.Cell, many)}
	y := api.Table{Names: slices.Clone(x.Names), Rows: make([][]api.Cell, many)}
	slices.Reverse(y.Names)
	x.Rows[many-1] = row(c(1))
	y.Rows[many-1] = make([]api.Cell, many)
	y.Rows[many-1][many-1] = c(1)
	if !table.Agree(x, y, 1<<63-1) || !table.Agree(y, x, many) {
		t.Error("like tables do not agree")
	}
	y.Rows[many-1][many-2] = c(1)
	if table.Agree(x, y, 1<<63-1) || table.Agree(y, x, many-1) || !table.Agree(x, y, many-2) {
		t.Error("tables agree that differ on the last day alone")
	}
}

func plainOverlay(a, b api.Table) api.Table {
	var t api.Table
	for _, name := range slices.Concat(a.Names, b.Names) {
		if !slices.Contains(t.Names, name) {
			t.Names = append(t.Names, name)
		}
	}
	for day := range max(len(a.Rows), len(b.Rows)) {
		var cells []api.Cell
		for _, name := range t.Names {
			cell := plainCell(b, name, day)
			if !cell.Has {
				cell = plainCell(a, name, day)
			}
			cells = append(cells, cell)
		}
		t.Rows = append(t.Rows, cells)
	}
	return t
}

// P508
func TestOverlay(t *testing.T) {
	r := newChance()
	for range 20000 {
		a, b := r.sound(), r.sound()
		got, e := table.Overlay(a, b)
		if !same(got, plainOverlay(a, b)) || e != api.OK {
			t.Fatalf("Overlay(%v, %v): %v, %d", a, b, got, e)
		}
		if e := table.Valid(got); e != api.OK {
			t.Fatalf("Overlay(%v, %v) is not valid: %d", a, b, e)
		}
	}
}

// P508
func TestOverlayOfManyNames(t *testing.T) {
	few := func(first, n int) api.Table { return tab(manyNames(first, n)) }
	for _, x := range []struct {
		a, b  api.Table
		count int
		e     api.Errno
	}{
		{few(0, 64), few(0, 64), 64, api.OK},
		{few(0, 64), few(0, 0), 64, api.OK},
		{few(0, 0), few(0, 64), 64, api.OK},
		{few(0, 32), few(32, 32), 64, api.OK},
		{few(0, 32), few(32, 33), 0, api.ErrLong},
		{few(0, 32), few(31, 33), 64, api.OK},
		{few(0, 64), few(64, 1), 0, api.ErrLong},
		{few(0, 64), few(63, 2), 0, api.ErrLong},
		{few(0, 64), few(1000, 64), 0, api.ErrLong},
	} {
		got, e := table.Overlay(x.a, x.b)
		if len(got.Names) != x.count || len(got.Rows) != 0 || e != x.e {
			t.Errorf("%d and %d names: %d, %d, want %d, %d", len(x.a.Names), len(x.b.Names), len(got.Names), e, x.count, x.e)
		}
		if e != api.OK && !isZero(got) {
			t.Errorf("%d and %d names: a table with an error", len(x.a.Names), len(x.b.Names))
		}
	}
}

// P509
func TestMissing(t *testing.T) {
	r := newChance()
	for range 20000 {
		x, asked, last := r.sound(), r.names(), r.Intn(6)
		var want []api.Pair
		for day := range last + 1 {
			for _, name := range asked {
				if !plainCell(x, name, day).Has {
					want = append(want, api.Pair{Name: name, V: day})
				}
			}
		}
		if got, e := table.Missing(x, asked, last); !slices.Equal(got, want) || e != api.OK {
			t.Fatalf("Missing(%v, %v, %d): %v, %d", x, asked, last, got, e)
		}
	}
}

// P509
func TestMissingEdges(t *testing.T) {
	got, e := table.Missing(rates(), names("RATE"), 3660)
	if len(got) != 3661-2 || got[0].V != 1 || got[len(got)-1] != (api.Pair{Name: "RATE", V: 3660}) || e != api.OK {
		t.Errorf("up to 3660: %d pairs, %d", len(got), e)
	}
	if got, e := table.Missing(api.Table{}, names("B", "A", "B"), 0); fmt.Sprint(got) != "[{B 0} {A 0} {B 0}]" || e != api.OK {
		t.Errorf("of nothing: %v, %d", got, e)
	}
	if got, e := table.Missing(wide(64, 4096), nil, 3660); len(got) != 0 || e != api.OK {
		t.Errorf("no names: %v, %d", got, e)
	}
	for _, last := range []int{-1 << 63, -1, 3661, 1<<63 - 1} {
		for _, x := range wrongTables() {
			if got, e := table.Missing(x.t, names("x"), last); got != nil || e != api.ErrArg {
				t.Errorf("up to %d: %v, %d", last, got, e)
			}
		}
	}
	if got, e := table.Missing(rates(), names("RATE", "rate"), 0); got != nil || e != api.ErrName {
		t.Errorf("a wrong name: %v, %d", got, e)
	}
}
