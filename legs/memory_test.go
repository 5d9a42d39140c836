package legs_test

import (
	"cmp"
	"math/rand"
	"reflect"
	"slices"
	"testing"
	"unsafe"

	"payoff/api"
	"payoff/legs"
	"payoff/sample"
)

// room is the memory of a list, its spare room included.
type room struct{ from, to uintptr }

// rooms: the memory of all lists of a value.
func rooms(v reflect.Value) []room {
	var all []room
	switch v.Kind() {
	case reflect.Struct:
		for i := range v.NumField() {
			all = append(all, rooms(v.Field(i))...)
		}
	case reflect.Slice:
		if size := v.Type().Elem().Size() * uintptr(v.Cap()); size > 0 {
			all = append(all, room{v.Pointer(), v.Pointer() + size})
		}
		for i := range v.Len() {
			all = append(all, rooms(v.Index(i))...)
		}
	}
	return all
}

// wantApart: no two lists of these share memory.
func wantApart(t *testing.T, what string, values ...any) {
	t.Helper()
	var all []room
	for _, v := range values {
		all = append(all, rooms(reflect.ValueOf(v))...)
	}
	slices.SortFunc(all, func(a, b room) int { return cmp.Compare(a.from, b.from) })
	for i := range all[min(1, len(all)):] {
		if all[i].to > all[i+1].from {
			t.Fatalf("two lists share memory: %s", what)
		}
	}
}

// copied: a value with all of its lists made anew, the spare room and what lies there as a part of them.
func copied(v reflect.Value) reflect.Value {
	out := reflect.New(v.Type()).Elem()
	out.Set(v)
	switch v.Kind() {
	case reflect.Struct:
		for i := range v.NumField() {
			out.Field(i).Set(copied(v.Field(i)))
		}
	case reflect.Slice:
		list := reflect.MakeSlice(v.Type(), 0, v.Cap())
		for i := range v.Cap() {
			list = reflect.Append(list, copied(v.Slice(0, v.Cap()).Index(i)))
		}
		out.Set(list)
	}
	return out
}

// unchanged: whether values are the same behind a call as ahead of it, with their lists' spare room.
func unchanged(t *testing.T, what string, call func(), values ...any) {
	t.Helper()
	var before []any
	for _, v := range values {
		before = append(before, copied(reflect.ValueOf(v)).Interface())
	}
	call()
	for i, v := range values {
		if !reflect.DeepEqual(before[i], copied(reflect.ValueOf(v)).Interface()) {
			t.Fatalf("what was handed in has changed: %s", what)
		}
	}
}

// spare gives each list of an expression spare room, with something in it.
func spare(e api.X) api.X {
	kids := make([]api.X, len(e.Kids), len(e.Kids)+2)
	for i, kid := range e.Kids {
		kids[i] = spare(kid)
	}
	kids[:cap(kids)][len(kids)] = xNum(77)
	e.Kids = kids
	return e
}

// P901, DOC.md: no two lists of an answer share memory, nor does one with the deal; the deal stays as it is.
func TestUnrollGivesNewMemory(t *testing.T) {
	t.Parallel()
	chance := rand.New(rand.NewSource(98))
	for range 1500 {
		d := sample.Deal(chance.Intn)
		d.Names, d.Holidays = append(slices.Clip(d.Names), "Z")[:len(d.Names)], slices.Grow(d.Holidays, 2)
		unchanged(t, told(d), func() {
			one, _, _ := legs.Unroll(d)
			two, _, _ := legs.Unroll(d)
			wantApart(t, told(d), d, one, two)
		}, d)
	}
	text := "def f(a) = a + a; contract let x = A + 1 in if (x > 0) give { pay(EUR, f(x) * x) and pay(EUR, x) } else scale(f(x)) for t in 0..1 pay(EUR, f(x));"
	actions, _, _ := legs.Unroll(deal(t, text))
	wantApart(t, text, actions)
}

// DOC.md: what Play gives is new memory, and neither it nor the other calls change what they are given.
func TestWhatIsHandedInStaysAsItIs(t *testing.T) {
	t.Parallel()
	chance := rand.New(rand.NewSource(99))
	for range 1500 {
		var actions []api.Action
		for day := range chance.Intn(4) {
			a := action(chance, day)
			a.E = spare(a.E)
			a.Steps = append(slices.Clip(a.Steps), give())[:len(a.Steps)]
			actions = append(actions, a)
		}
		e, rows, cells := spare(handmade(chance, 3)), sample.Rows(chance.Intn, 4, 3), []int{1, 2, 3, 4}[:3]
		unchanged(t, "Play", func() {
			one, _ := legs.Play(actions, 3, rows)
			two, _ := legs.Play(actions, 3, rows)
			wantApart(t, "Play", actions, rows, one, two)
		}, actions, rows)
		unchanged(t, "Value, Nodes, Reads", func() {
			legs.Value(e, rows, cells)
			legs.Nodes(e)
			for range legs.Reads(e) {
			}
		}, e, rows, cells)
	}
}

// The size of an api.X, by which rooms goes, is that of the language.
func TestRoomsAreMeasured(t *testing.T) {
	list := make([]api.X, 2, 5)
	if all := rooms(reflect.ValueOf(list)); len(all) != 1 || all[0].to-all[0].from != 5*unsafe.Sizeof(api.X{}) {
		t.Errorf("%v", all)
	}
}
