package lower_test

import (
	"cmp"
	"math/rand"
	"reflect"
	"slices"
	"sync"
	"testing"

	"payoff/api"
	"payoff/image"
	"payoff/lower"
)

// room is the memory of a list, its spare room included.
type room struct{ from, to uintptr }

// rooms: the memory of all lists of a value.
func rooms(v reflect.Value) []room {
	var all []room
	switch v.Kind() {
	case reflect.Struct:
		for i := range v.NumField() {
			all = append(all, rooms(v.Field(i))...)
		}
	case reflect.Slice:
		if size := v.Type().Elem().Size() * uintptr(v.Cap()); size > 0 {
			all = append(all, room{v.Pointer(), v.Pointer() + size})
		}
		for i := range v.Len() {
			all = append(all, rooms(v.Index(i))...)
		}
	}
	return all
}

// wantApart: no two lists of these share memory.
func wantApart(t *testing.T, values ...any) {
	t.Helper()
	var all []room
	for _, v := range values {
		all = append(all, rooms(reflect.ValueOf(v))...)
	}
	slices.SortFunc(all, func(a, b room) int { return cmp.Compare(a.from, b.from) })
	for i := range all[min(1, len(all)):] {
		if all[i].to > all[i+1].from {
			t.Fatal("two lists share memory")
		}
	}
}

// spare gives a list spare room, with something in it.
func spare[T any](list []T, mark T) []T {
	return append(append(make([]T, 0, len(list)+2), list...), mark, mark)[:len(list)]
}

// roomy: a copy of a form with spare room in all lists.
func roomy(n api.Normal) api.Normal {
	n.Names, n.Nodes, n.Actions = spare(n.Names, "Z"), spare(n.Nodes, api.Node{Op: 77}), spare(n.Actions, api.NAction{Kind: 78})
	for i := range n.Actions {
		n.Actions[i].Steps = spare(n.Actions[i].Steps, api.NStep{Kind: 79})
	}
	return n
}

// widened: a copy of a value, the spare room of its lists being a part of them.
func widened(v reflect.Value) reflect.Value {
	out := reflect.New(v.Type()).Elem()
	out.Set(v)
	switch v.Kind() {
	case reflect.Struct:
		for i := range v.NumField() {
			out.Field(i).Set(widened(v.Field(i)))
		}
	case reflect.Slice:
		list := reflect.MakeSlice(v.Type(), 0, v.Cap())
		for i := range v.Cap() {
			list = reflect.Append(list, widened(v.Slice(0, v.Cap()).Index(i)))
		}
		out.Set(list)
	}
	return out
}

// scramble writes something else over all lists of a value, their spare room included.
func scramble(v reflect.Value) {
	switch v.Kind() {
	case reflect.Struct:
		for i := range v.NumField() {
			scramble(v.Field(i))
		}
	case reflect.Slice:
		for i := range v.Cap() {
			x := v.Slice(0, v.Cap()).Index(i)
			scramble(x)
			x.SetZero()
		}
	}
}

// DOC.md, Rules: no call changes what it is given; what is answered is new memory, and may be written over.
func TestMemory(t *testing.T) {
	t.Parallel()
	chance := rand.New(rand.NewSource(179))
	for turn := range 1500 {
		n := roomy(someForm(t, chance))
		if turn%8 == 0 && len(n.Actions) > 0 {
			spoil(chance, &n)
			n = roomy(n)
		}
		before := widened(reflect.ValueOf(n)).Interface()
		told := []any{n}
		for _, share := range []bool{true, false, true} {
			p, _ := lower.Lower(n, share)
			told = append(told, p)
			for day := range n.Horizon + 1 {
				list, _ := lower.Shared(n, day)
				told = append(told, list)
			}
		}
		wantApart(t, told...)
		for _, v := range told[1:] {
			scramble(reflect.ValueOf(v))
		}
		if !reflect.DeepEqual(before, widened(reflect.ValueOf(n)).Interface()) {
			t.Fatalf("what was handed in has changed: %+v", n)
		}
	}
}

// DOC.md, Rules: nothing is kept from call to call: a form may be written over behind the call, and what was answered ahead says nothing of what comes.
func TestNothingIsKept(t *testing.T) {
	t.Parallel()
	chance := rand.New(rand.NewSource(180))
	for range 1000 {
		n := someForm(t, chance)
		want, _ := plainLower(n, true)
		given := roomy(n)
		p := lowered(t, given, true)
		scramble(reflect.ValueOf(given))
		if !image.Equal(p, want) {
			t.Fatalf("Lower:\n%s\nwant\n%s", shown(p), shown(want))
		}
		scramble(reflect.ValueOf(p))
		if p = lowered(t, n, true); !image.Equal(p, want) {
			t.Fatalf("Lower:\n%s\nwant\n%s", shown(p), shown(want))
		}
	}
}

// DOC.md, Rules: calls side by side.
func TestSideBySide(t *testing.T) {
	chance := rand.New(rand.NewSource(181))
	var forms []api.Normal
	for range 40 {
		forms = append(forms, someForm(t, chance))
	}
	workers := sync.WaitGroup{}
	for range 16 {
		workers.Go(func() {
			for _, n := range forms {
				p, e := lower.Lower(n, true)
				want, shared := plainLower(n, true)
				if e != api.OK || !image.Equal(p, want) {
					t.Errorf("Lower: %d:\n%s\nwant\n%s", e, shown(p), shown(want))
				}
				for day, kept := range shared {
					if list, e := lower.Shared(n, day); e != api.OK || !slices.Equal(list, kept) {
						t.Errorf("Shared: %v, %d, want %v", list, e, kept)
					}
				}
			}
		})
	}
	workers.Wait()
}
