package code_test

import (
	"math/rand"
	"slices"
	"testing"

	"payoff/api"
	"payoff/code"
)

// someInstr makes a valid instruction, its operands often at their edges.
func someInstr(chance *rand.Rand) api.Instr {
	r := plainly[chance.Intn(len(plainly))]
	operands := []int{0, 0}
	for n, bound := range r.bounds {
		edges := []int{0, bound, bound / 2, min(bound, 127), min(bound, 128), chance.Intn(bound + 1)}
		operands[n] = edges[chance.Intn(len(edges))]
	}
	return api.Instr{Op: r.op, A: operands[0], B: operands[1]}
}

func someList(chance *rand.Rand) []api.Instr {
	list := make([]api.Instr, chance.Intn(9))
	for k := range list {
		list[k] = someInstr(chance)
	}
	return list
}

// spoilt changes bytes in one place, takes some away, or puts some in.
func spoilt(chance *rand.Rand, b []byte) []byte {
	at := chance.Intn(len(b) + 1)
	to := min(len(b), at+chance.Intn(3))
	put := make([]byte, chance.Intn(3))
	for k := range put {
		put[k] = []byte{0, 1, 28, 29, 127, 128, 255, byte(chance.Intn(256))}[chance.Intn(8)]
	}
	return slices.Concat(b[:at], put, b[to:])
}

// P1104, P1105, P1106: lists by chance, whole, cut at each byte, with other counts, and spoilt.
func TestLists(t *testing.T) {
	t.Parallel()
	chance := rand.New(rand.NewSource(11))
	for range 20000 {
		list := someList(chance)
		want, e := plainEncode(list)
		wantBytes(t, list, want, e)
		wantRead(t, want, len(list), list, 0, api.OK)
		for cut := range want {
			holdDecode(t, want[:cut], len(list))
		}
		for count := range len(list) + 2 {
			holdDecode(t, want, count)
		}
		b := spoilt(chance, want)
		for count := range len(list) + 2 {
			holdDecode(t, b, count)
		}
		if t.Failed() {
			return
		}
	}
}

// P1104: a list with one instruction that is not valid, wherever it stands.
func TestListsWithOneWrong(t *testing.T) {
	chance := rand.New(rand.NewSource(12))
	for range 20000 {
		list := append(someList(chance), someInstr(chance))
		wrong := &list[chance.Intn(len(list))]
		field := []*int{&wrong.Op, &wrong.A, &wrong.B}[chance.Intn(3)]
		*field += []int{-1, 1, 29, 1 << 20, -1 << 20, 1 << 32, -1 << 63}[chance.Intn(7)]
		want, e := plainEncode(list)
		wantBytes(t, list, want, e)
		if got := code.Valid(*wrong); got != e {
			t.Fatalf("Valid(%v) = %d, want %d", *wrong, got, e)
		}
	}
}

// P1105: bytes by chance.
func TestBytesByChance(t *testing.T) {
	t.Parallel()
	chance := rand.New(rand.NewSource(13))
	for range 200000 {
		b := make([]byte, chance.Intn(16))
		for k := range b {
			b[k] = byte(chance.Intn(256) >> chance.Intn(8))
		}
		holdDecode(t, b, chance.Intn(8))
	}
}
