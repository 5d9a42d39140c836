package build_test

import (
	"bytes"
	"cmp"
	"math/rand"
	"reflect"
	"slices"
	"sync"
	"testing"

	"payoff/api"
	"payoff/build"
	"payoff/sample"
)

// room is the memory of a list, its spare room included.
type room struct{ from, to uintptr }

// rooms: the memory of all lists of a value.
func rooms(v reflect.Value) []room {
	var all []room
	switch v.Kind() {
	case reflect.Struct:
		for i := range v.NumField() {
			all = append(all, rooms(v.Field(i))...)
		}
	case reflect.Slice:
		if size := v.Type().Elem().Size() * uintptr(v.Cap()); size > 0 {
			all = append(all, room{v.Pointer(), v.Pointer() + size})
		}
		for i := range v.Len() {
			all = append(all, rooms(v.Index(i))...)
		}
	}
	return all
}

// wantApart: no two lists of these share memory.
func wantApart(t *testing.T, values ...any) {
	t.Helper()
	var all []room
	for _, v := range values {
		all = append(all, rooms(reflect.ValueOf(v))...)
	}
	slices.SortFunc(all, func(a, b room) int { return cmp.Compare(a.from, b.from) })
	for i := range all[min(1, len(all)):] {
		if all[i].to > all[i+1].from {
			t.Fatal("two lists share memory")
		}
	}
}

// spare gives a list spare room, with something in it.
func spare[T any](list []T, mark T) []T {
	return append(append(make([]T, 0, len(list)+2), list...), mark, mark)[:len(list)]
}

// roomy: a copy of a table with spare room in all lists.
func roomy(x api.Table) api.Table {
	x.Names, x.Rows = spare(x.Names, "mark"), spare(x.Rows, []api.Cell{{V: 77}})
	for day := range x.Rows {
		x.Rows[day] = spare(x.Rows[day], api.Cell{V: 78})
	}
	return x
}

// widened: a copy of a value, the spare room of its lists being a part of them.
func widened(v reflect.Value) reflect.Value {
	out := reflect.New(v.Type()).Elem()
	out.Set(v)
	switch v.Kind() {
	case reflect.Struct:
		for i := range v.NumField() {
			out.Field(i).Set(widened(v.Field(i)))
		}
	case reflect.Slice:
		list := reflect.MakeSlice(v.Type(), 0, v.Cap())
		for i := range v.Cap() {
			list = reflect.Append(list, widened(v.Slice(0, v.Cap()).Index(i)))
		}
		out.Set(list)
	}
	return out
}

// scramble writes something else over all lists of a value, their spare room included.
func scramble(v reflect.Value) {
	switch v.Kind() {
	case reflect.Struct:
		for i := range v.NumField() {
			scramble(v.Field(i))
		}
	case reflect.Slice:
		for i := range v.Cap() {
			x := v.Slice(0, v.Cap()).Index(i)
			scramble(x)
			x.SetZero()
		}
	}
}

// answers: what the four calls tell of a text, an image and a table.
type answers struct {
	Image        []byte
	Read, Meant  api.Report
	Ran, Comes   api.Outcome
	Needs        []api.Pair
	Refused, Not api.Errno
}

func ask(text string, b []byte, in api.Table) answers {
	var a answers
	a.Image, a.Read = build.Compile(text, true, true)
	a.Ran, a.Refused = build.Run(b, in)
	a.Comes, a.Meant = build.Mean(text, in)
	a.Needs, a.Not = build.Needs(b)
	return a
}

// same tells whether answers are the same, empty lists being like none.
func (a answers) same(b answers) bool {
	return bytes.Equal(a.Image, b.Image) && sameReport(a.Read, b.Read) && sameReport(a.Meant, b.Meant) && sameOutcome(a.Ran, b.Ran) &&
		sameOutcome(a.Comes, b.Comes) && slices.Equal(a.Needs, b.Needs) && a.Refused == b.Refused && a.Not == b.Not
}

// asked is something to ask.
type asked struct {
	text string
	b    []byte
	in   api.Table
}

// someAsked: a text, bytes and a table by chance; some of each are wrong.
func someAsked(t *testing.T, chance *rand.Rand) asked {
	t.Helper()
	p := sample.Sound(chance.Intn)
	a := asked{someText(t, chance), imageOf(t, p), sample.Table(chance.Intn, append([]string{"A", "B", "C"}, "S", "Z9", "B_1"), chance.Intn(14))}
	switch chance.Intn(8) {
	case 0:
		a.text = spoilt(chance, a.text)
	case 1:
		a.b = spoilBytes(chance, a.b)
	case 2:
		a.in.Names = append(a.in.Names, "X")
	}
	return a
}

// P1801: no call changes what it is given; what is answered is new memory, and may be written over.
func TestMemory(t *testing.T) {
	t.Parallel()
	chance := rand.New(rand.NewSource(191))
	for range 800 {
		a := someAsked(t, chance)
		a.b, a.in = spare(a.b, 79), roomy(a.in)
		bytesBefore, tableBefore := widened(reflect.ValueOf(a.b)).Interface(), widened(reflect.ValueOf(a.in)).Interface()
		one, two := ask(a.text, a.b, a.in), ask(a.text, a.b, a.in)
		wantApart(t, a.b, a.in, one, two)
		scramble(reflect.ValueOf(one))
		scramble(reflect.ValueOf(two))
		if !reflect.DeepEqual(bytesBefore, widened(reflect.ValueOf(a.b)).Interface()) || !reflect.DeepEqual(tableBefore, widened(reflect.ValueOf(a.in)).Interface()) {
			t.Fatalf("what was handed in has changed: %v, %v", a.b, a.in)
		}
	}
}

// P1801: nothing is kept from call to call: what was handed in, and what was answered, may be written over.
func TestNothingIsKept(t *testing.T) {
	t.Parallel()
	chance := rand.New(rand.NewSource(192))
	for range 500 {
		a := someAsked(t, chance)
		b, in := bytes.Clone(a.b), roomy(a.in)
		first := ask(a.text, b, in)
		scramble(reflect.ValueOf(b))
		scramble(reflect.ValueOf(in))
		if again := ask(a.text, a.b, a.in); !first.same(again) {
			t.Fatalf("%+v, and then %+v", first, again)
		}
		want := ask(a.text, a.b, a.in)
		scramble(reflect.ValueOf(first))
		ask(someText(t, chance), a.b, api.Table{})
		if again := ask(a.text, a.b, a.in); !again.same(want) {
			t.Fatalf("%+v, and then %+v", want, again)
		}
	}
}

// DOC.md, Rules: calls side by side.
func TestSideBySide(t *testing.T) {
	chance := rand.New(rand.NewSource(193))
	var list []asked
	var wants []answers
	for range 20 {
		a := someAsked(t, chance)
		list, wants = append(list, a), append(wants, ask(a.text, a.b, a.in))
	}
	workers := sync.WaitGroup{}
	for range 8 {
		workers.Go(func() {
			for i, a := range list {
				if got := ask(a.text, a.b, a.in); !got.same(wants[i]) {
					t.Errorf("%+v, want %+v", got, wants[i])
				}
			}
		})
	}
	workers.Wait()
}
