package fan_test

import (
	"cmp"
	"math/rand"
	"reflect"
	"slices"
	"testing"

	"payoff/api"
)

// room is the memory of a list, its spare room included.
type room struct{ from, to uintptr }

// rooms: the memory of all lists of a value.
func rooms(v reflect.Value) []room {
	var all []room
	switch v.Kind() {
	case reflect.Struct:
		for i := range v.NumField() {
			all = append(all, rooms(v.Field(i))...)
		}
	case reflect.Slice:
		if size := v.Type().Elem().Size() * uintptr(v.Cap()); size > 0 {
			all = append(all, room{v.Pointer(), v.Pointer() + size})
		}
		for i := range v.Len() {
			all = append(all, rooms(v.Index(i))...)
		}
	}
	return all
}

// wantApart: no two lists of these share memory.
func wantApart(t *testing.T, values ...any) {
	t.Helper()
	var all []room
	for _, v := range values {
		all = append(all, rooms(reflect.ValueOf(v))...)
	}
	slices.SortFunc(all, func(a, b room) int { return cmp.Compare(a.from, b.from) })
	for i := range all[min(1, len(all)):] {
		if all[i].to > all[i+1].from {
			t.Fatal("two lists share memory")
		}
	}
}

// spare gives a list spare room, with something in it.
func spare[T any](list []T, mark T) []T {
	return append(append(make([]T, 0, len(list)+2), list...), mark, mark)[:len(list)]
}

// roomyProgram: a copy of a program with spare room in all lists.
func roomyProgram(p api.Program) api.Program {
	p.Names, p.Curs, p.Pool = spare(p.Names, "N"), spare(p.Curs, "CUR"), spare(p.Pool, 77)
	p.Days = spare(p.Days, api.Segment{Day: 78, Code: []api.Instr{{Op: 79}}})
	for n := range p.Days {
		p.Days[n].Code = spare(p.Days[n].Code, api.Instr{Op: 80})
	}
	return p
}

// roomyTables: a copy of tables with spare room in all lists.
func roomyTables(list []api.Table) []api.Table {
	list = spare(list, api.Table{Names: []string{"mark"}})
	for n, x := range list {
		x.Names, x.Rows = spare(x.Names, "mark"), spare(x.Rows, []api.Cell{{V: 81}})
		for d := range x.Rows {
			x.Rows[d] = spare(x.Rows[d], api.Cell{V: 82})
		}
		list[n] = x
	}
	return list
}

// widened: a copy of a value, the spare room of its lists being a part of them.
func widened(v reflect.Value) reflect.Value {
	out := reflect.New(v.Type()).Elem()
	out.Set(v)
	switch v.Kind() {
	case reflect.Struct:
		for i := range v.NumField() {
			out.Field(i).Set(widened(v.Field(i)))
		}
	case reflect.Slice:
		list := reflect.MakeSlice(v.Type(), 0, v.Cap())
		for i := range v.Cap() {
			list = reflect.Append(list, widened(v.Slice(0, v.Cap()).Index(i)))
		}
		out.Set(list)
	}
	return out
}

func whole(v any) any { return widened(reflect.ValueOf(v)).Interface() }

// wiped writes zeroes over all lists of a value, from within.
func wiped(v reflect.Value) {
	switch v.Kind() {
	case reflect.Struct:
		for i := range v.NumField() {
			wiped(v.Field(i))
		}
	case reflect.Slice:
		for i := range v.Len() {
			wiped(v.Index(i))
			v.Index(i).SetZero()
		}
	}
}

// someCase: what to ask: right most of the time.
func someCase(chance *rand.Rand) (api.Program, []api.Table, int) {
	p := someProgram(chance)
	scenarios := someTables(chance, p, chance.Intn(9))
	if chance.Intn(5) == 0 && len(scenarios) > 0 {
		at := chance.Intn(len(scenarios))
		scenarios[at] = spoiltTable(chance, scenarios[at])
	}
	if chance.Intn(8) == 0 {
		p = spoiltProgram(chance, p)
	}
	return p, scenarios, chance.Intn(17)
}

// P2005: what is handed in stays as it is, its spare room too, also where it is refused.
func TestNothingHandedInChanges(t *testing.T) {
	t.Parallel()
	chance := rand.New(rand.NewSource(2021))
	for range 600 {
		p, scenarios, workers := someCase(chance)
		p, scenarios = roomyProgram(p), roomyTables(scenarios)
		before := []any{whole(p), whole(scenarios)}
		ask(p, scenarios, workers)
		if !reflect.DeepEqual([]any{whole(p), whole(scenarios)}, before) {
			t.Fatal("what was handed in has changed")
		}
	}
}

// P2005: no outcome shares memory with another one, with another answer, or with what was handed in.
func TestNewMemory(t *testing.T) {
	t.Parallel()
	chance := rand.New(rand.NewSource(2022))
	flows := 0
	for range 1000 {
		p, scenarios, workers := someCase(chance)
		p, scenarios = roomyProgram(p), roomyTables(scenarios)
		one, two := ask(p, scenarios, workers), ask(p, scenarios, workers)
		wantApart(t, p, scenarios, one.outs, one.totals, two.outs, two.totals)
		for _, out := range one.outs {
			flows += len(out.Flows)
		}
	}
	if flows < 1000 {
		t.Errorf("%d flows alone", flows)
	}
	// Also where one table is all the scenarios.
	got := ask(exampleP(5), slices.Repeat([]api.Table{of("A", 7)}, 50), 4)
	wantApart(t, got.outs)
}

// P2005: nothing is kept: what was handed in, and what was answered, may be written over.
func TestNothingIsKept(t *testing.T) {
	t.Parallel()
	chance := rand.New(rand.NewSource(2023))
	for range 500 {
		p, scenarios, workers := someCase(chance)
		want := plainly(p, scenarios, workers)
		given, tables := roomyProgram(p), roomyTables(scenarios)
		got := ask(given, tables, workers)
		wiped(reflect.ValueOf(given))
		wiped(reflect.ValueOf(tables))
		if !got.same(want) {
			t.Fatal("what was answered has changed with what was handed in")
		}
		wiped(reflect.ValueOf(got.outs))
		clear(got.totals)
		if again := ask(p, scenarios, workers); !again.same(want) {
			t.Fatal("asked again, another answer")
		}
	}
}
