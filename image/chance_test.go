package image_test

import (
	"math"
	"math/rand"
	"slices"
	"testing"

	"payoff/api"
	"payoff/image"
	"payoff/sample"
)

// P1201, P1202, P1203, P1204, P1205: programs by chance, and their images cut at each byte.
func TestPrograms(t *testing.T) {
	t.Parallel()
	chance := rand.New(rand.NewSource(121))
	for range 5000 {
		p := sample.Program(chance.Intn)
		holdCanon(t, "by chance", p, api.OK)
		b, _ := image.Encode(p)
		back, _, _ := image.Decode(b)
		wantEqual(t, "read back", back, p, true)
		cut := chance.Intn(len(b))
		holdDecode(t, b[:cut])
		if t.Failed() {
			return
		}
	}
	b, _ := image.Encode(example())
	for cut := range b {
		holdDecode(t, b[:cut])
	}
}

// numbers: all numbers of a program.
func numbers(p *api.Program) []*int {
	list := []*int{&p.Horizon, &p.Cells, &p.Slots, &p.Stack}
	for k := range p.Pool {
		list = append(list, &p.Pool[k])
	}
	for k := range p.Days {
		list = append(list, &p.Days[k].Day)
		for n := range p.Days[k].Code {
			i := &p.Days[k].Code[n]
			list = append(list, &i.Op, &i.A, &i.B)
		}
	}
	return list
}

// reshape takes a part of a list away, puts one in twice, or exchanges two that stand next to each other.
func reshape[T any](chance *rand.Rand, list []T) []T {
	list = slices.Clone(list)
	if len(list) == 0 {
		return make([]T, chance.Intn(2))
	}
	at := chance.Intn(len(list))
	switch chance.Intn(3) {
	case 0:
		return slices.Delete(list, at, at+1)
	case 1:
		return slices.Insert(list, at, list[at])
	}
	list[0], list[at] = list[at], list[0]
	return list
}

// spoil changes something in a program.
func spoil(chance *rand.Rand, p *api.Program) {
	switch chance.Intn(8) {
	case 0:
		p.Names = reshape(chance, p.Names)
	case 1:
		p.Curs = reshape(chance, p.Curs)
	case 2:
		p.Pool = reshape(chance, p.Pool)
	case 3:
		p.Days = reshape(chance, p.Days)
	case 4:
		if len(p.Days) > 0 {
			s := &p.Days[chance.Intn(len(p.Days))]
			s.Code = reshape(chance, s.Code)
		}
	case 5:
		if lists := [][]string{p.Names, p.Curs}; len(lists[0]) > 0 && len(lists[1]) > 0 {
			list := lists[chance.Intn(2)]
			list[chance.Intn(len(list))] = []string{"", "A", "B", "EUR", "eur", "X\x00"}[chance.Intn(6)]
		}
	default:
		all := numbers(p)
		x := all[chance.Intn(len(all))]
		*x = []int{*x + 1, *x - 1, 0, 1, chance.Intn(40), math.MinInt, math.MaxInt, -*x, *x + 1<<32}[chance.Intn(9)]
	}
}

// P1201, P1202, P1205: programs with up to three things changed; most are no longer canonical.
func TestSpoiltPrograms(t *testing.T) {
	t.Parallel()
	chance := rand.New(rand.NewSource(122))
	canonical := 0
	for range 30000 {
		seed := chance.Int63()
		p := sample.Program(rand.New(rand.NewSource(seed)).Intn)
		same := sample.Program(rand.New(rand.NewSource(seed)).Intn)
		for range 1 + chance.Intn(3) {
			spoil(chance, &p)
		}
		e := plainCanon(p)
		holdCanon(t, "spoilt", p, e)
		wantEqual(t, "spoilt", p, same, plainEqual(p, same))
		if e == api.OK {
			canonical++
		}
		if t.Failed() {
			return
		}
	}
	if canonical < 1000 || canonical > 29000 {
		t.Errorf("%d of 30000 are canonical", canonical)
	}
}

// spoiltBytes changes bytes in one place, takes some away, or puts some in.
func spoiltBytes(chance *rand.Rand, s string) string {
	at := chance.Intn(len(s) + 1)
	to := min(len(s), at+chance.Intn(3))
	put := make([]byte, chance.Intn(3))
	for k := range put {
		put[k] = []byte{0, 1, 2, 28, 29, 'A', 127, 128, 255, byte(chance.Intn(256))}[chance.Intn(10)]
	}
	return s[:at] + string(put) + s[to:]
}

// P1203, P1204: images with other bodies, under a right checksum.
func TestSpoiltBodies(t *testing.T) {
	t.Parallel()
	chance := rand.New(rand.NewSource(123))
	told := map[api.Errno]int{}
	for range 60000 {
		bodies := plainBodies(sample.Program(chance.Intn))
		for range 1 + chance.Intn(2) {
			n := chance.Intn(5)
			bodies[n] = spoiltBytes(chance, bodies[n])
		}
		b := plainSeal(bodies...)
		holdDecode(t, b)
		_, _, e := image.Decode(b)
		told[e]++
		if t.Failed() {
			return
		}
	}
	for _, e := range []api.Errno{api.OK, api.ErrShort, api.ErrVarint, api.ErrExtra, api.ErrOp, api.ErrCanon} {
		if told[e] < 100 {
			t.Errorf("the answer %d came %d times", e, told[e])
		}
	}
}

// P1203, P1204: bodies of bytes by chance.
func TestBodiesByChance(t *testing.T) {
	t.Parallel()
	chance := rand.New(rand.NewSource(124))
	for range 100000 {
		bodies := []string{"\x00", "\x00", "\x00", "\x03\x02\x02\x02", "\x00"}
		n := chance.Intn(5)
		body := make([]byte, chance.Intn(14))
		for k := range body {
			body[k] = byte(chance.Intn(256) >> chance.Intn(8))
		}
		bodies[n] = string(body)
		holdDecode(t, plainSeal(bodies...))
		if t.Failed() {
			return
		}
	}
}

// P1203: images with bits turned: the seal's word on it comes first.
func TestTurnedBits(t *testing.T) {
	t.Parallel()
	b, _ := image.Encode(example())
	for bit := range 8 * len(b) {
		turned := slices.Clone(b)
		turned[bit/8] ^= 1 << (bit % 8)
		holdDecode(t, turned)
		if _, _, e := image.Decode(turned); e != api.ErrMagic && e != api.ErrSum {
			t.Errorf("bit %d: %d", bit, e)
		}
	}
}

// P1204: no two programs have the same image: programs of a small world, and their images.
func TestImagesOfASmallWorld(t *testing.T) {
	images := map[string]int{}
	count := 0
	for _, horizon := range []int{0, 1} {
		for _, days := range [][]int{{}, {0}, {1}, {0, 1}} {
			for _, pool := range [][]int{{}, {-1}, {0}, {-1, 0}, {0, 2}} {
				for _, names := range [][]string{{}, {"A"}, {"AA"}, {"A", "AA"}} {
					p := onDays(horizon, days...)
					p.Pool, p.Names = pool, names
					for k := range p.Days {
						p.Days[k].Code = append(append(naming(api.OpConst, len(pool)), naming(api.OpObs, len(names))...), p.Days[k].Code...)
					}
					holdCanon(t, "of a small world", p, plainCanon(p))
					if b, e := image.Encode(p); e == api.OK {
						images[string(b)]++
						count++
					}
				}
			}
		}
	}
	if len(images) != count || count < 80 {
		t.Errorf("%d programs, %d images", count, len(images))
	}
}
