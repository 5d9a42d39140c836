package save_test

import (
	"bytes"
	"cmp"
	"math/rand"
	"reflect"
	"slices"
	"sync"
	"testing"

	"payoff/api"
	"payoff/machine"
	"payoff/sample"
	"payoff/save"
)

// room is the memory of a list, its spare room included.
type room struct{ from, to uintptr }

// rooms: the memory of all lists of a value.
func rooms(v reflect.Value) []room {
	var all []room
	switch v.Kind() {
	case reflect.Struct:
		for i := range v.NumField() {
			all = append(all, rooms(v.Field(i))...)
		}
	case reflect.Slice:
		if size := v.Type().Elem().Size() * uintptr(v.Cap()); size > 0 {
			all = append(all, room{v.Pointer(), v.Pointer() + size})
		}
		for i := range v.Len() {
			all = append(all, rooms(v.Index(i))...)
		}
	}
	return all
}

// wantApart: no two lists of these share memory.
func wantApart(t *testing.T, values ...any) {
	t.Helper()
	var all []room
	for _, v := range values {
		all = append(all, rooms(reflect.ValueOf(v))...)
	}
	slices.SortFunc(all, func(a, b room) int { return cmp.Compare(a.from, b.from) })
	for i := range all[min(1, len(all)):] {
		if all[i].to > all[i+1].from {
			t.Fatal("two lists share memory")
		}
	}
}

// spare gives a list spare room, with something in it.
func spare[T any](list []T, mark T) []T {
	return append(append(make([]T, 0, len(list)+2), list...), mark, mark)[:len(list)]
}

// roomyProgram: a copy of a program with spare room in all lists.
func roomyProgram(p api.Program) api.Program {
	p.Names, p.Curs, p.Pool = spare(p.Names, "n"), spare(p.Curs, "c"), spare(p.Pool, 77)
	p.Days = spare(p.Days, api.Segment{Day: 78, Code: []api.Instr{{Op: 79}}})
	for k := range p.Days {
		p.Days[k].Code = spare(p.Days[k].Code, api.Instr{Op: 80})
	}
	return p
}

// roomyState: likewise.
func roomyState(s api.State) api.State {
	s.Cells, s.Past = spare(s.Cells, 83), spare(s.Past, []api.Cell{{V: 81}})
	for k := range s.Past {
		s.Past[k] = spare(s.Past[k], api.Cell{V: 82})
	}
	return s
}

// widened: a copy of a value, the spare room of its lists being a part of them.
func widened(v reflect.Value) reflect.Value {
	out := reflect.New(v.Type()).Elem()
	out.Set(v)
	switch v.Kind() {
	case reflect.Struct:
		for i := range v.NumField() {
			out.Field(i).Set(widened(v.Field(i)))
		}
	case reflect.Slice:
		list := reflect.MakeSlice(v.Type(), 0, v.Cap())
		for i := range v.Cap() {
			list = reflect.Append(list, widened(v.Slice(0, v.Cap()).Index(i)))
		}
		out.Set(list)
	}
	return out
}

// wantUnchanged: a call leaves values as they are, with their lists' spare room.
func wantUnchanged(t *testing.T, call func(), values ...any) {
	t.Helper()
	var before []any
	for _, v := range values {
		before = append(before, widened(reflect.ValueOf(v)).Interface())
	}
	call()
	for i, v := range values {
		if !reflect.DeepEqual(before[i], widened(reflect.ValueOf(v)).Interface()) {
			t.Fatalf("what was handed in has changed: %+v", v)
		}
	}
}

// scramble writes something else over all lists of a value, their spare room included.
func scramble(v reflect.Value) {
	switch v.Kind() {
	case reflect.Struct:
		for i := range v.NumField() {
			scramble(v.Field(i))
		}
	case reflect.Slice:
		for i := range v.Cap() {
			x := v.Slice(0, v.Cap()).Index(i)
			scramble(x)
			x.SetZero()
		}
	}
}

// P1608: no call changes what it is given; what is answered is new memory.
func TestWhatIsHandedInStaysAsItIs(t *testing.T) {
	t.Parallel()
	chance := rand.New(rand.NewSource(172))
	for turn := range 3000 {
		right := sample.Sound(chance.Intn)
		from := sample.State(chance.Intn, right)
		bodies := plainBodies(right, from)
		m, _ := machine.Resume(right, from)
		p, s := roomyProgram(right), roomyState(from)
		switch turn % 8 {
		case 1:
			sample.Spoil(chance.Intn, &s)
		case 2:
			p.Stack++
		case 3, 4:
			n := chance.Intn(4)
			bodies[n] = spoiltBytes(chance, bodies[n])
		}
		b := spare(plainSeal(bodies...), 84)
		wantUnchanged(t, func() {
			save.Valid(p, s)
			one, _ := save.Encode(p, s)
			two, _ := save.Encode(p, s)
			three, _ := save.Freeze(p, m)
			four, _ := save.Freeze(p, m)
			five, _, _ := save.Decode(p, b)
			six, _, _ := save.Decode(p, b)
			wantApart(t, p, s, b, one, two, three, four, five, six)
			save.Thaw(p, b)
		}, p, s, b)
		if !sameState(m.State(), from) {
			t.Fatalf("the machine has changed: %+v, %+v", from, m.State())
		}
	}
}

// P1608: nothing that was handed in or answered is kept: it may be written over behind the call.
func TestNothingIsKept(t *testing.T) {
	t.Parallel()
	chance := rand.New(rand.NewSource(173))
	for range 1000 {
		p := sample.Sound(chance.Intn)
		s := sample.State(chance.Intn, p)
		want, _ := holdEncode(t, p, s)
		given, b := roomyProgram(p), spare(want, 84)
		m := thawed(t, given, b)
		read, _, _ := save.Decode(given, b)
		scramble(reflect.ValueOf(given))
		scramble(reflect.ValueOf(b))
		if !sameState(read, s) {
			t.Fatalf("%+v, want %+v", read, s)
		}
		scramble(reflect.ValueOf(frozen(t, p, m)))
		scramble(reflect.ValueOf(read))
		if again := frozen(t, p, m); !bytes.Equal(again, want) {
			t.Fatalf("Freeze = %x, want %x", again, want)
		}
		n, _ := machine.Resume(p, s)
		for _, row := range sample.Rows(chance.Intn, p.Horizon+2-s.Today, len(p.Names)) {
			wantSameDay(t, p, n, m, row)
		}
		holdEncode(t, p, s)
	}
}

// P1608: machines that were thawed from the same bytes know nothing of each other, nor of the one that was frozen.
func TestMachinesShareNothing(t *testing.T) {
	t.Parallel()
	chance := rand.New(rand.NewSource(174))
	for range 600 {
		p := sample.Sound(chance.Intn)
		s := sample.State(chance.Intn, p)
		first, _ := machine.Resume(p, s)
		b := frozen(t, p, first)
		machines := []*machine.Machine{first, thawed(t, p, b), thawed(t, p, b), thawed(t, p, b)}
		var alone []*machine.Machine
		for range machines {
			m, _ := machine.Resume(p, s)
			alone = append(alone, m)
		}
		for range 12 {
			n := chance.Intn(len(machines))
			row := rowOf(sample.Rows(chance.Intn, 1, len(p.Names)), 0)
			wantSameDay(t, p, alone[n], machines[n], row)
			for k, m := range machines {
				wantAlike(t, p, alone[k], m)
			}
		}
	}
}

// P1608: calls side by side, of one program, one state and the same bytes.
func TestSideBySide(t *testing.T) {
	chance := rand.New(rand.NewSource(175))
	type task struct {
		p    api.Program
		s    api.State
		want []byte
	}
	var tasks []task
	for range 60 {
		p := sample.Sound(chance.Intn)
		s := sample.State(chance.Intn, p)
		want, _ := plainEncode(p, s)
		tasks = append(tasks, task{p, s, want})
	}
	workers := sync.WaitGroup{}
	for range 16 {
		workers.Go(func() {
			for _, x := range tasks {
				b, e := save.Encode(x.p, x.s)
				s, place, err := save.Decode(x.p, x.want)
				if e != api.OK || err != api.OK || place != 0 || !bytes.Equal(b, x.want) || !sameState(s, x.s) {
					t.Errorf("%d, %d, %d: %x, %+v, want %x, %+v", e, err, place, b, s, x.want, x.s)
				}
				m, e := save.Thaw(x.p, x.want)
				if e != api.OK || save.Valid(x.p, m.State()) != api.OK {
					t.Errorf("Thaw: %d", e)
				}
			}
		})
	}
	workers.Wait()
}
