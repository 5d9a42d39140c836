package image_test

import (
	"math"
	"slices"
	"strings"
	"testing"

	"payoff/api"
	"payoff/image"
)

// manyNames: so many names of 31 bytes, rising.
func manyNames(count int) []string {
	var list []string
	for n := range count {
		list = append(list, strings.Repeat("N", 29)+string(rune('A'+n/26))+string(rune('A'+n%26)))
	}
	return list
}

func manyCurs(count int) []string {
	var list []string
	for n := range count {
		list = append(list, string([]byte{byte('A' + n/676), byte('A' + n/26%26), byte('A' + n%26)}))
	}
	return list
}

// manyNumbers: so many numbers, rising, as far apart as they can be.
func manyNumbers(count int) []int {
	var list []int
	for n := range count {
		list = append(list, math.MinInt+n*(math.MaxInt/count*2))
	}
	return list
}

// P1201, P1202, P1203: the most names, currencies and constants, and one more.
func TestMostOfEach(t *testing.T) {
	holdCanon(t, "64 names", ofNames(manyNames(64)...), api.OK)
	holdCanon(t, "65 names", ofNames(manyNames(65)...), api.ErrCanon)
	holdCanon(t, "4096 currencies", ofCurs(manyCurs(4096)...), api.OK)
	holdCanon(t, "4097 currencies", ofCurs(manyCurs(4097)...), api.ErrCanon)
	holdCanon(t, "16384 constants", ofPool(manyNumbers(16384)...), api.OK)
	holdCanon(t, "16385 constants", ofPool(manyNumbers(16385)...), api.ErrCanon)
	// One more that the code does not name, either.
	for what, more := range map[string]func(p *api.Program){
		"names": func(p *api.Program) { p.Names = manyNames(65) }, "currencies": func(p *api.Program) { p.Curs = manyCurs(4097) }, "constants": func(p *api.Program) { p.Pool = manyNumbers(16385) },
	} {
		p := greatest()
		more(&p)
		holdCanon(t, what, p, api.ErrCanon)
	}
}

// greatest: a program all of whose parts are as great as can be, but for the days.
func greatest() api.Program {
	p := api.Program{Names: manyNames(64), Curs: manyCurs(4096), Pool: manyNumbers(16384), Horizon: 3660, Cells: 32768, Slots: 16384, Stack: 16384}
	list := slices.Concat(naming(api.OpObs, 64), naming(api.OpFlow, 4096), naming(api.OpConst, 16384))
	list = append(list, slices.Repeat([]api.Instr{{Op: api.OpZero, A: api.MaxCode - 1}}, api.MaxCode-1-len(list))...)
	return coded(p, list...)
}

// P1201, P1202, P1203, P1204: MaxCode instructions, and one more; in one day, and in all days together. No image is too long.
func TestMostCode(t *testing.T) {
	p := greatest()
	holdCanon(t, "the greatest", p, api.OK)
	b, _ := image.Encode(p)
	if len(b) <= 1<<20 || len(b) > api.MaxImage {
		t.Errorf("the image has %d bytes", len(b))
	}
	p.Days[0].Code = append([]api.Instr{{Op: api.OpDrop}}, p.Days[0].Code...)
	holdCanon(t, "one more", p, api.ErrCanon)
	every := greatest()
	list := every.Days[0].Code
	every.Days = nil
	for day := range 3661 {
		own := slices.Clone(list[:70])
		list = list[70:]
		if day == 3660 {
			own = append(own, list[:api.MaxCode-3661*71]...)
		}
		every.Days = append(every.Days, api.Segment{Day: day, Code: append(own, api.Instr{Op: api.OpEnd})})
	}
	holdCanon(t, "every day", every, api.OK)
	last := &every.Days[1].Code
	*last = append([]api.Instr{{Op: api.OpDrop}}, *last...)
	holdCanon(t, "every day, and one instruction more", every, api.ErrCanon)
}

// P1203: more instructions than a program may have can be read, but are no program.
func TestReadTooMuchCode(t *testing.T) {
	day := plainUint(1<<18) + plainText(strings.Repeat("\x08", 1<<18-1)+"\x00")
	one := plainSeal("\x00", "\x00", "\x00", "\x01\x00\x00\x00", "\x01\x00"+day)
	wantRead(t, one, coded(api.Program{Horizon: 1}, slices.Repeat([]api.Instr{{Op: api.OpDrop}}, 1<<18-1)...), 0, api.OK)
	two := plainSeal("\x00", "\x00", "\x00", "\x01\x00\x00\x00", "\x02\x00"+day+"\x00"+day)
	wantRefused(t, two, 0, api.ErrCanon)
	more := plainSeal("\x00", "\x00", "\x00", "\x01\x00\x00\x00", "\x02\x00"+day+"\x00\x02\x02\x08\x00")
	wantRefused(t, more, 0, api.ErrCanon)
}

// P1203: the longest text of instructions, and one byte more.
func TestReadLongestCode(t *testing.T) {
	p := example()
	for size, e := range map[int]api.Errno{1572863: api.ErrExtra, 1572864: api.ErrExtra, 1572865: api.ErrVarint} {
		b, at := replaced(p, 5, "\x01\x00\x02"+plainText(strings.Repeat("\x08", size)))
		place := at + 3
		if e == api.ErrExtra {
			place += 3 + 2
		}
		wantRefused(t, b, place, e)
		holdDecode(t, b)
	}
}

// P1203: MaxImage bytes are looked at, one more is not.
func TestReadLongest(t *testing.T) {
	p := example()
	whole, at := replaced(p, 5, strings.Repeat("\x00", 1<<20))
	room := api.MaxImage - len(whole) + 1<<20
	for n, want := range []struct {
		place int
		e     api.Errno
	}{{at + 1, api.ErrExtra}, {at + 1, api.ErrExtra}, {0, api.ErrLong}, {0, api.ErrLong}} {
		b, _ := replaced(p, 5, strings.Repeat("\x00", room-1+n))
		if len(b) != api.MaxImage-1+n {
			t.Fatalf("%d bytes", len(b))
		}
		wantRefused(t, b, want.place, want.e)
	}
	wantRefused(t, make([]byte, api.MaxImage), 0, api.ErrMagic)
	wantRefused(t, make([]byte, api.MaxImage+1), 0, api.ErrLong)
	right, _ := image.Encode(p)
	wantRefused(t, append(right, make([]byte, api.MaxImage)...), 0, api.ErrLong)
}
