package machine_test

import (
	"cmp"
	"math/rand"
	"reflect"
	"slices"
	"sync"
	"testing"

	"payoff/api"
	"payoff/machine"
	"payoff/sample"
)

// room is the memory of a list, its spare room included.
type room struct{ from, to uintptr }

// rooms: the memory of all lists of a value.
func rooms(v reflect.Value) []room {
	var all []room
	switch v.Kind() {
	case reflect.Struct:
		for i := range v.NumField() {
			all = append(all, rooms(v.Field(i))...)
		}
	case reflect.Slice:
		if size := v.Type().Elem().Size() * uintptr(v.Cap()); size > 0 {
			all = append(all, room{v.Pointer(), v.Pointer() + size})
		}
		for i := range v.Len() {
			all = append(all, rooms(v.Index(i))...)
		}
	}
	return all
}

// wantApart: no two lists of these share memory.
func wantApart(t *testing.T, values ...any) {
	t.Helper()
	var all []room
	for _, v := range values {
		all = append(all, rooms(reflect.ValueOf(v))...)
	}
	slices.SortFunc(all, func(a, b room) int { return cmp.Compare(a.from, b.from) })
	for i := range all[min(1, len(all)):] {
		if all[i].to > all[i+1].from {
			t.Fatal("two lists share memory")
		}
	}
}

// spare gives a list spare room, with something in it.
func spare[T any](list []T, mark T) []T {
	return append(append(make([]T, 0, len(list)+2), list...), mark, mark)[:len(list)]
}

// roomyProgram: a copy of a program with spare room in all lists.
func roomyProgram(p api.Program) api.Program {
	p.Names, p.Curs, p.Pool = spare(p.Names, "n"), spare(p.Curs, "c"), spare(p.Pool, 77)
	p.Days = spare(p.Days, api.Segment{Day: 78, Code: []api.Instr{{Op: 79}}})
	for k := range p.Days {
		p.Days[k].Code = spare(p.Days[k].Code, api.Instr{Op: 80})
	}
	return p
}

// roomyRows: likewise.
func roomyRows(rows [][]api.Cell) [][]api.Cell {
	rows = spare(rows, []api.Cell{{V: 81}})
	for k := range rows {
		rows[k] = spare(rows[k], api.Cell{V: 82})
	}
	return rows
}

// roomyState: likewise.
func roomyState(s api.State) api.State {
	s.Cells, s.Past = spare(s.Cells, 83), roomyRows(s.Past)
	return s
}

// widened: a copy of a value, the spare room of its lists being a part of them.
func widened(v reflect.Value) reflect.Value {
	out := reflect.New(v.Type()).Elem()
	out.Set(v)
	switch v.Kind() {
	case reflect.Struct:
		for i := range v.NumField() {
			out.Field(i).Set(widened(v.Field(i)))
		}
	case reflect.Slice:
		list := reflect.MakeSlice(v.Type(), 0, v.Cap())
		for i := range v.Cap() {
			list = reflect.Append(list, widened(v.Slice(0, v.Cap()).Index(i)))
		}
		out.Set(list)
	}
	return out
}

// wantUnchanged: a call leaves values as they are, with their lists' spare room.
func wantUnchanged(t *testing.T, call func(), values ...any) {
	t.Helper()
	var before []any
	for _, v := range values {
		before = append(before, widened(reflect.ValueOf(v)).Interface())
	}
	call()
	for i, v := range values {
		if !reflect.DeepEqual(before[i], widened(reflect.ValueOf(v)).Interface()) {
			t.Fatalf("what was handed in has changed: %+v", v)
		}
	}
}

// scramble writes something else over all lists of a value, their spare room included.
func scramble(v reflect.Value) {
	switch v.Kind() {
	case reflect.Struct:
		for i := range v.NumField() {
			scramble(v.Field(i))
		}
	case reflect.Slice:
		for i := range v.Cap() {
			x := v.Slice(0, v.Cap()).Index(i)
			scramble(x)
			x.SetZero()
		}
	}
}

// P1508: no call changes what it is given.
func TestWhatIsHandedInStaysAsItIs(t *testing.T) {
	t.Parallel()
	chance := rand.New(rand.NewSource(158))
	for turn := range 3000 {
		p := roomyProgram(sample.Sound(chance.Intn))
		s, rows := roomyState(sample.State(chance.Intn, p)), roomyRows(rowsFor(chance, p))
		if turn%4 == 0 {
			sample.Spoil(chance.Intn, &s)
		}
		if turn%7 == 0 {
			p.Stack++
		}
		wantUnchanged(t, func() {
			one, _ := machine.Run(p, rows)
			two, _ := machine.Run(p, rows)
			wantApart(t, p, rows, one, two)
			for _, begin := range []func() (*machine.Machine, api.Errno){
				func() (*machine.Machine, api.Errno) { return machine.New(p) },
				func() (*machine.Machine, api.Errno) { return machine.Resume(p, s) },
			} {
				m, e := begin()
				for day := 0; e == api.OK && day < p.Horizon+3; day++ {
					m.Day(rowOf(rows, day))
					m.State()
				}
			}
		}, p, s, rows)
	}
}

// P1508: nothing that was handed in is kept: it may be written over behind the call. Nothing that was answered is kept: likewise.
func TestNothingIsKept(t *testing.T) {
	t.Parallel()
	chance := rand.New(rand.NewSource(159))
	for range 1500 {
		p := sample.Sound(chance.Intn)
		rows, s := rowsFor(chance, p), sample.State(chance.Intn, p)
		given, from := roomyProgram(p), roomyState(s)
		fresh, kept := started(t, given), wantResume(t, given, from, api.OK)
		scramble(reflect.ValueOf(given))
		scramble(reflect.ValueOf(from))
		one, two := plainNew(p), plainResume(p, s)
		var told []any
		for day := range p.Horizon + 2 {
			for _, pair := range []struct {
				m    *machine.Machine
				want *plain
			}{{fresh, one}, {kept, two}} {
				row := roomyRows([][]api.Cell{rowOf(rows, day)})[0]
				flows, fault, e := pair.m.Day(row)
				wantFlows, wantFault, wantE := pair.want.day(rowOf(rows, day))
				if !slices.Equal(flows, wantFlows) || fault != wantFault || e != wantE {
					t.Fatalf("Day = %v, %d, %d, want %v, %d, %d:\n%s", flows, fault, e, wantFlows, wantFault, wantE, shown(p))
				}
				wantState(t, pair.m, pair.want.state(), pair.want.over())
				a, b := pair.m.State(), pair.m.State()
				told = append(told, flows, a, b)
				wantApart(t, append([]any{p, rows, row}, told...)...)
				scramble(reflect.ValueOf(row))
				scramble(reflect.ValueOf(flows))
				scramble(reflect.ValueOf(a))
				wantState(t, pair.m, pair.want.state(), pair.want.over())
			}
		}
	}
}

// P1508: what Run answers shares nothing with the program: it may be written over.
func TestOutcomesAreNewMemory(t *testing.T) {
	p := example(t)
	rows := [][]api.Cell{seen(10), seen(20)}
	one, _ := machine.Run(p, rows)
	scramble(reflect.ValueOf(one))
	wantRun(t, p, rows, api.Outcome{Flows: eur(2, 30, 5)}, api.OK)
}

// P1508: machines of one program know nothing of each other, in whatever turn they are called.
func TestMachinesOfOneProgram(t *testing.T) {
	t.Parallel()
	chance := rand.New(rand.NewSource(160))
	for range 1500 {
		p := sample.Sound(chance.Intn)
		var machines []*machine.Machine
		var plains []*plain
		for range 4 {
			s := sample.State(chance.Intn, p)
			machines, plains = append(machines, wantResume(t, p, s, api.OK)), append(plains, plainResume(p, s))
		}
		// One that goes on from where another is.
		at := chance.Intn(4)
		machines, plains = append(machines, wantResume(t, p, machines[at].State(), api.OK)), append(plains, plains[at].copied())
		for range 20 {
			n := chance.Intn(len(machines))
			holdDay(t, plains[n], rowOf(rowsFor(chance, p), 0), machines[n])
			for k, m := range machines {
				wantState(t, m, plains[k].state(), plains[k].over())
			}
		}
	}
}

// P1508: machines of one program side by side.
func TestSideBySide(t *testing.T) {
	chance := rand.New(rand.NewSource(161))
	type task struct {
		p    api.Program
		rows [][]api.Cell
		want api.Outcome
	}
	var tasks []task
	for range 60 {
		p := sample.Sound(chance.Intn)
		rows := rowsFor(chance, p)
		want, _ := machine.Run(p, rows)
		tasks = append(tasks, task{p, rows, want})
	}
	workers := sync.WaitGroup{}
	for range 16 {
		workers.Go(func() {
			for _, x := range tasks {
				wantRun(t, x.p, x.rows, x.want, api.OK)
			}
		})
	}
	workers.Wait()
}
