package verify_test

import (
	"math/rand"
	"reflect"
	"slices"
	"sync"
	"testing"

	"payoff/api"
	"payoff/sample"
	"payoff/verify"
)

// spare gives a list spare room, with something in it.
func spare[T any](list []T, mark T) []T {
	return append(append(make([]T, 0, len(list)+2), list...), mark, mark)[:len(list)]
}

// whole: a list with its spare room.
func whole[T any](list []T) []T { return list[:cap(list)] }

// roomy: a program with spare room in all lists.
func roomy(p api.Program) api.Program {
	p.Names, p.Curs, p.Pool = spare(p.Names, "n"), spare(p.Curs, "c"), spare(p.Pool, 77)
	p.Days = spare(p.Days, api.Segment{Day: 78, Code: []api.Instr{{Op: 79}}})
	for k := range p.Days {
		p.Days[k].Code = spare(p.Days[k].Code, api.Instr{Op: 80})
	}
	return p
}

// widened: a copy of a program, the spare room of its lists being a part of them.
func widened(p api.Program) api.Program {
	p.Names, p.Curs, p.Pool, p.Days = slices.Clone(whole(p.Names)), slices.Clone(whole(p.Curs)), slices.Clone(whole(p.Pool)), slices.Clone(whole(p.Days))
	for k := range p.Days {
		p.Days[k].Code = slices.Clone(whole(p.Days[k].Code))
	}
	return p
}

// P1401, P1402: what is handed in stays as it is, taken or refused, and what lies in its spare room counts for nothing; answers share no memory with each other.
func TestMemory(t *testing.T) {
	t.Parallel()
	chance := rand.New(rand.NewSource(148))
	for turn := range 3000 {
		p := sample.Sound(chance.Intn)
		if turn%2 == 1 {
			spoil(chance, &p)
		}
		p = roomy(p)
		before := widened(p)
		hold(t, p)
		for n := range p.Days {
			one, _ := verify.Heights(p, n)
			two, _ := verify.Heights(p, n)
			kept := slices.Clone(one)
			for k := range whole(two) {
				whole(two)[k] = -7
			}
			if !slices.Equal(one, kept) {
				t.Fatal("two answers share memory")
			}
		}
		if !reflect.DeepEqual(widened(p), before) {
			t.Fatal("what was given has changed")
		}
	}
}

// P1401, P1402: calls side by side, over the same programs, answer as one behind the other.
func TestSideBySide(t *testing.T) {
	chance := rand.New(rand.NewSource(149))
	var programs []api.Program
	for turn := range 40 {
		programs = append(programs, sample.Sound(chance.Intn))
		if turn%2 == 1 {
			spoil(chance, &programs[turn])
		}
	}
	workers := sync.WaitGroup{}
	for range 16 {
		workers.Go(func() {
			for _, p := range programs {
				hold(t, p)
			}
		})
	}
	workers.Wait()
}
