package code_test

import (
	"bytes"
	"math/rand"
	"slices"
	"sync"
	"testing"

	"payoff/api"
	"payoff/code"
)

// spare gives a list spare room, with something in it.
func spare[T any](list []T, mark T) []T {
	return append(append(make([]T, 0, len(list)+2), list...), mark, mark)[:len(list)]
}

// whole: a list with its spare room.
func whole[T any](list []T) []T { return list[:cap(list)] }

// overwrite puts a value all over a list and its spare room.
func overwrite[T any](list []T, value T) {
	for k := range whole(list) {
		whole(list)[k] = value
	}
}

// P1104, P1105: what is handed in stays as it is, and each answer is memory of its own.
func TestMemory(t *testing.T) {
	chance := rand.New(rand.NewSource(14))
	for range 2000 {
		list := spare(append(someList(chance), someInstr(chance)), api.Instr{Op: 77})
		listBefore := slices.Clone(whole(list))
		first, _ := code.Encode(list)
		second, _ := code.Encode(list)
		want := bytes.Clone(first)
		overwrite(second, 0xee)
		if !bytes.Equal(first, want) || !slices.Equal(whole(list), listBefore) {
			t.Fatalf("Encode(%v): what it was given has changed, or two answers share memory", list)
		}
		b := spare(first, 0x55)
		bytesBefore := bytes.Clone(whole(b))
		one, _, _ := code.Decode(b, len(list))
		two, _, _ := code.Decode(b, len(list))
		overwrite(two, api.Instr{Op: 78})
		if !slices.Equal(one, list) || !bytes.Equal(whole(b), bytesBefore) {
			t.Fatalf("Decode(% x): what it was given has changed, or two answers share memory", b)
		}
		overwrite(b, 0)
		if !slices.Equal(one, list) {
			t.Fatalf("Decode shares memory with what it was given")
		}
	}
}

// P1101 to P1105: calls side by side answer as one behind the other.
func TestSideBySide(t *testing.T) {
	list := []api.Instr{{Op: api.OpObs, A: 63, B: 3660}, {Op: api.OpRatio, A: 4}, {Op: api.OpEnd}}
	b := []byte{3, 63, 0xcc, 0x1c, 18, 4, 0}
	workers := sync.WaitGroup{}
	for range 16 {
		workers.Go(func() {
			for range 200 {
				wantName(t, 18, "ratio", api.OK)
				wantFound(t, "flow", 28, api.OK)
				wantEffect(t, 18, 3, 1, api.OK)
				wantBytes(t, list, b, api.OK)
				wantRead(t, b, 3, list, 0, api.OK)
			}
		})
	}
	workers.Wait()
}
