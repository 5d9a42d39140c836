package save_test

import (
	"math/rand"
	"slices"
	"testing"

	"payoff/api"
	"payoff/image"
	"payoff/sample"
	"payoff/save"
	"payoff/verify"
)

// wantOften: each of these was told so often.
func wantOften(t *testing.T, told map[api.Errno]int, count int, errors ...api.Errno) {
	t.Helper()
	for _, e := range errors {
		if told[e] < count {
			t.Errorf("%d was told %d times alone: %v", e, told[e], told)
		}
	}
}

// P1601 to P1604: states by chance of programs by chance, and their bytes cut somewhere.
func TestStatesByChance(t *testing.T) {
	t.Parallel()
	chance := rand.New(rand.NewSource(161))
	for range 5000 {
		p := sample.Sound(chance.Intn)
		b, e := holdEncode(t, p, sample.State(chance.Intn, p))
		if e != api.OK {
			t.Fatalf("Encode: %d:\n%s", e, shown(p))
		}
		holdDecode(t, p, b[:chance.Intn(len(b))])
	}
}

// P1601, P1602: states with something changed, which may have become no states.
func TestSpoiltStates(t *testing.T) {
	t.Parallel()
	chance := rand.New(rand.NewSource(162))
	told := map[api.Errno]int{}
	for range 8000 {
		p := sample.Sound(chance.Intn)
		s := sample.State(chance.Intn, p)
		for range 1 + chance.Intn(2) {
			sample.Spoil(chance.Intn, &s)
		}
		_, e := holdEncode(t, p, s)
		told[e]++
	}
	wantOften(t, told, 800, api.OK, api.ErrState)
}

// P1603: what such states would be as bytes.
func TestBytesOfSpoiltStates(t *testing.T) {
	t.Parallel()
	chance := rand.New(rand.NewSource(163))
	told := map[api.Errno]int{}
	for range 8000 {
		p := sample.Sound(chance.Intn)
		s := sample.State(chance.Intn, p)
		for range 1 + chance.Intn(2) {
			sample.Spoil(chance.Intn, &s)
		}
		told[holdDecode(t, p, plainSeal(plainBodies(p, s)...))]++
	}
	wantOften(t, told, 400, api.OK, api.ErrState, api.ErrSection)
}

// spoiltBytes changes bytes in one place, takes some away, or puts some in.
func spoiltBytes(chance *rand.Rand, s string) string {
	at := chance.Intn(len(s) + 1)
	to := min(len(s), at+chance.Intn(3))
	put := make([]byte, chance.Intn(3))
	for k := range put {
		put[k] = []byte{0, 1, 2, 3, 127, 128, 129, 255, byte(chance.Intn(256))}[chance.Intn(9)]
	}
	return s[:at] + string(put) + s[to:]
}

// P1603, P1604: other bodies, under a right checksum.
func TestSpoiltBodies(t *testing.T) {
	t.Parallel()
	chance := rand.New(rand.NewSource(164))
	told := map[api.Errno]int{}
	for range 12000 {
		p := sample.Sound(chance.Intn)
		bodies := plainBodies(p, sample.State(chance.Intn, p))
		for range 1 + chance.Intn(2) {
			n := (1 + chance.Intn(7)) / 2 // the first one seldom
			bodies[n] = spoiltBytes(chance, bodies[n])
		}
		told[holdDecode(t, p, plainSeal(bodies...))]++
	}
	wantOften(t, told, 200, api.OK, api.ErrSection, api.ErrState, api.ErrOther)
}

// P1603, P1604: bodies of bytes by chance.
func TestBodiesByChance(t *testing.T) {
	t.Parallel()
	chance := rand.New(rand.NewSource(165))
	told := map[api.Errno]int{}
	for range 12000 {
		p := sample.Sound(chance.Intn)
		bodies := plainBodies(p, sample.State(chance.Intn, p))
		body := make([]byte, chance.Intn(14))
		for k := range body {
			body[k] = byte(chance.Intn(256) >> chance.Intn(9))
		}
		bodies[1+chance.Intn(3)] = string(body)
		told[holdDecode(t, p, plainSeal(bodies...))]++
	}
	wantOften(t, told, 100, api.OK, api.ErrSection, api.ErrState)
}

// P1603, P1608: bytes that begin like a state's, or not at all.
func TestBytesByChance(t *testing.T) {
	t.Parallel()
	chance := rand.New(rand.NewSource(166))
	told := map[api.Errno]int{}
	for range 8000 {
		p := sample.Sound(chance.Intn)
		b := plainSeal(plainBodies(p, sample.State(chance.Intn, p))...)
		told[holdDecode(t, p, []byte(spoiltBytes(chance, string(b))))]++
	}
	wantOften(t, told, 100, api.ErrMagic, api.ErrSum)
}

// P1603, P1604: the bytes of one program's state are taken for no other program, though it would be a state of that.
func TestOtherPrograms(t *testing.T) {
	t.Parallel()
	chance := rand.New(rand.NewSource(167))
	shared := 0
	for range 4000 {
		p, q := sample.Sound(chance.Intn), sample.Sound(chance.Intn)
		s := sample.State(chance.Intn, p)
		b, _ := holdEncode(t, p, s)
		if plainMark(p) == plainMark(q) {
			if !image.Equal(p, q) {
				t.Fatalf("one mark:\n%s\n%s", shown(p), shown(q))
			}
			continue
		}
		wantRefused(t, q, b, 11, api.ErrOther)
		if save.Valid(q, s) == api.OK {
			shared++
			other, _ := holdEncode(t, q, s)
			wantRefused(t, p, other, 11, api.ErrOther)
		}
	}
	if shared < 40 {
		t.Errorf("%d states were of both", shared)
	}
}

// P1603: it is the mark alone that tells programs apart: of two unlike ones with one mark, the state of one is taken for the other.
func TestProgramsOfOneMark(t *testing.T) {
	t.Parallel()
	chance := rand.New(rand.NewSource(1600))
	p := example(t)
	by := map[string]int{}
	for range 1 << 19 {
		v := chance.Int()
		p.Pool = []int{v}
		mark := plainMark(p)
		first, there := by[mark]
		by[mark] = v
		if !there {
			continue
		}
		q := example(t)
		q.Pool = []int{first}
		s := api.State{Today: 1, Past: [][]api.Cell{seen(7)}}
		b, _ := holdEncode(t, p, s)
		wantRead(t, q, b, s)
		return
	}
	t.Error("there are no two")
}

// P1601 to P1606: programs that are no programs: what Verify says of them comes first.
func TestRefusedPrograms(t *testing.T) {
	t.Parallel()
	chance := rand.New(rand.NewSource(168))
	told := map[api.Errno]int{}
	for turn := range 4000 {
		right := sample.Sound(chance.Intn)
		s := sample.State(chance.Intn, right)
		b, _ := holdEncode(t, right, s)
		m := thawed(t, right, b)
		p := sample.Program(chance.Intn)
		if turn%2 == 0 {
			p = right
			p.Days = slices.Clone(p.Days)
			for n := range p.Days {
				p.Days[n].Code = slices.Clone(p.Days[n].Code)
				p.Days[n].Code[chance.Intn(len(p.Days[n].Code))].Op = chance.Intn(api.OpFlow + 2)
			}
		}
		_, _, _, e := verify.Verify(p)
		told[e]++
		if e == api.OK {
			continue
		}
		if _, got := holdEncode(t, p, s); got != e {
			t.Fatalf("Encode: %d, want %d", got, e)
		}
		wantRefused(t, p, b, 0, e)
		if out, got := save.Freeze(p, m); out != nil || got != e {
			t.Fatalf("Freeze: %x, %d, want %d", out, got, e)
		}
	}
	wantOften(t, told, 5, api.ErrCanon, api.ErrStack, api.ErrProof, api.ErrSort, api.ErrBack, api.ErrJump, api.ErrSlot)
}
