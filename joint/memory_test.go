package joint_test

import (
	"math/rand"
	"reflect"
	"slices"
	"sync"
	"testing"

	"payoff/api"
	"payoff/image"
	"payoff/joint"
)

// spare gives a list spare room, with something in it.
func spare[T any](list []T, mark T) []T {
	return append(append(make([]T, 0, len(list)+2), list...), mark, mark)[:len(list)]
}

// whole: a list with its spare room.
func whole[T any](list []T) []T { return list[:cap(list)] }

// roomy: a copy of a program with spare room in all lists.
func roomy(p api.Program) api.Program {
	p.Names, p.Curs, p.Pool = spare(p.Names, "n"), spare(p.Curs, "c"), spare(p.Pool, 77)
	p.Days = spare(p.Days, api.Segment{Day: 78, Code: []api.Instr{{Op: 79}}})
	for k := range p.Days {
		p.Days[k].Code = spare(p.Days[k].Code, api.Instr{Op: 80})
	}
	return p
}

// widened: a copy of a program, the spare room of its lists being a part of them.
func widened(p api.Program) api.Program {
	p.Names, p.Curs, p.Pool, p.Days = whole(p.Names), whole(p.Curs), whole(p.Pool), whole(p.Days)
	p = copied(p)
	for k := range p.Days {
		p.Days[k].Code = slices.Clone(whole(p.Days[k].Code))
	}
	return p
}

// brand writes a text of its own, or a number, over every list of programs, spare room included, and tells how many of them do not hold theirs any more then: they share memory with another.
func brand(ps ...api.Program) int {
	var checks []func() bool
	next := 1000
	for _, p := range ps {
		var codes [][]api.Instr
		for _, s := range p.Days {
			codes = append(codes, s.Code)
		}
		for _, code := range codes {
			checks = append(checks, branded(code, api.Instr{Op: next}))
			next++
		}
		checks = append(checks, branded(p.Names, string(rune(next))), branded(p.Curs, string(rune(next+1))), branded(p.Pool, next), brandedDays(p.Days, next))
		next += 2
	}
	lost := 0
	for _, holds := range checks {
		if !holds() {
			lost++
		}
	}
	return lost
}

// branded writes an item over a list, and tells how to ask whether it still stands there.
func branded[T comparable](list []T, item T) func() bool {
	list = whole(list)
	for n := range list {
		list[n] = item
	}
	return func() bool { return !slices.ContainsFunc(list, func(x T) bool { return x != item }) }
}

func brandedDays(list []api.Segment, number int) func() bool {
	list = whole(list)
	for n := range list {
		list[n].Day = number
	}
	return func() bool { return !slices.ContainsFunc(list, func(s api.Segment) bool { return s.Day != number }) }
}

// asked is something to ask of the three calls.
type asked struct {
	ps    []api.Program
	days  int
	pairs []string
}

// someAsked: right and wrong things by chance.
func someAsked(chance *rand.Rand) asked {
	a := asked{ps: somePrograms(chance), days: pick(chance, 0, 5, 3660)}
	a.pairs = somePairs(chance, a.ps[0].Names)
	if chance.Intn(4) == 0 {
		a.ps[0] = spoilt(chance, a.ps[0])
	}
	return a
}

// withRoom: the same with lists of its own, with spare room in all of them.
func (a asked) withRoom() asked {
	a.ps, a.pairs = spare(a.ps, api.Program{Stack: 81}), spare(a.pairs, "p")
	for n := range a.ps {
		a.ps[n] = roomy(a.ps[n])
	}
	return a
}

// widened: a copy, the spare room of all lists being a part of them.
func (a asked) widened() asked {
	a.ps, a.pairs = slices.Clone(whole(a.ps)), slices.Clone(whole(a.pairs))
	for n := range a.ps {
		a.ps[n] = widened(a.ps[n])
	}
	return a
}

// answers: what the calls tell.
type answers struct {
	programs [3]api.Program
	errors   [3]api.Errno
}

func ask(a asked) answers {
	var got answers
	got.programs[0], got.errors[0] = joint.Join(a.ps)
	got.programs[1], got.errors[1] = joint.Later(a.ps[0], a.days)
	got.programs[2], got.errors[2] = joint.Rename(a.ps[0], a.pairs...)
	return got
}

func (a answers) same(b answers) bool {
	return a.errors == b.errors && slices.EqualFunc(a.programs[:], b.programs[:], image.Equal)
}

// P1908: what is handed in stays as it is, its spare room too, also where it is refused.
func TestNothingHandedInChanges(t *testing.T) {
	t.Parallel()
	chance := rand.New(rand.NewSource(1921))
	for range 1500 {
		a := someAsked(chance).withRoom()
		before := a.widened()
		ask(a)
		if !reflect.DeepEqual(a.widened(), before) {
			t.Fatal("what was handed in has changed")
		}
	}
}

// P1908: what is answered is new memory: no list of it shares any with what was handed in, with another answer, or with another list of its own.
func TestNewMemory(t *testing.T) {
	t.Parallel()
	chance := rand.New(rand.NewSource(1922))
	for range 1500 {
		a := someAsked(chance).withRoom()
		one, two := ask(a), ask(a)
		if lost := brand(slices.Concat(a.ps, one.programs[:], two.programs[:])...); lost > 0 {
			t.Fatalf("%d lists share memory", lost)
		}
	}
	// Join of one program, Later by nothing and Rename without pairs are the program, but not its memory.
	for range 500 {
		p := roomy(someProgram(chance))
		one, _ := joint.Join([]api.Program{p})
		two, _ := joint.Later(p, 0)
		three, _ := joint.Rename(p)
		if lost := brand(p, one, two, three); lost > 0 {
			t.Fatalf("%d lists share memory", lost)
		}
	}
}

// P1908: nothing is kept: what was handed in, and what was answered, may be written over.
func TestNothingIsKept(t *testing.T) {
	t.Parallel()
	chance := rand.New(rand.NewSource(1923))
	for range 1000 {
		a := someAsked(chance)
		want := ask(a)
		given := a.withRoom()
		got := ask(given)
		brand(given.ps...)
		clear(given.pairs)
		if !got.same(want) {
			t.Fatal("what was answered has changed with what was handed in")
		}
		brand(got.programs[:]...)
		ask(someAsked(chance))
		if again := ask(a); !again.same(want) {
			t.Fatal("asked again, another answer")
		}
	}
}

// P1908: the programs of a join may share memory with each other, and be one.
func TestSharedArguments(t *testing.T) {
	p := exampleAB(1, 0, "R", "S")
	list := append(slices.Clone(p.Days[0].Code), p.Days[2].Code...)
	p.Days[0].Code, p.Days[2].Code = list[:3], list[3:]
	q := api.Program{Curs: p.Curs[:1], Pool: p.Pool[:1], Horizon: 3, Stack: 1, Days: p.Days[2:]}
	if _, e := holdJoin(t, p, q, p, q); e != api.OK {
		t.Errorf("Join: %d", e)
	}
	if !image.Equal(p, exampleAB(1, 0, "R", "S")) {
		t.Error("what was handed in has changed")
	}
}

// DOC.md, Rules: calls side by side answer as one behind the other.
func TestCallsSideBySide(t *testing.T) {
	chance := rand.New(rand.NewSource(1924))
	var list []asked
	var wants []answers
	for range 30 {
		a := someAsked(chance)
		list, wants = append(list, a), append(wants, ask(a))
	}
	workers := sync.WaitGroup{}
	for range 8 {
		workers.Go(func() {
			for n, a := range list {
				if !ask(a).same(wants[n]) {
					t.Errorf("asked side by side, another answer")
				}
			}
		})
	}
	workers.Wait()
}
