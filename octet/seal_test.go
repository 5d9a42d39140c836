package octet_test

import (
	"bytes"
	"encoding/binary"
	"hash/crc32"
	"math/rand"
	"slices"
	"strings"
	"testing"

	"payoff/api"
	"payoff/octet"
)

func section(id int, body string) api.Section { return api.Section{Id: id, Body: []byte(body)} }

func same(a, b []api.Section) bool {
	return slices.EqualFunc(a, b, func(a, b api.Section) bool { return a.Id == b.Id && bytes.Equal(a.Body, b.Body) })
}

// rising gives n sections with the Ids from first on.
func rising(first, n int) []api.Section {
	sections := make([]api.Section, n)
	for i := range sections {
		sections[i] = section(first+i, strings.Repeat("b", i))
	}
	return sections
}

// plainSeal writes sealed bytes as the chapter's words say it, with the library's means.
func plainSeal(mark string, sections []api.Section) []byte {
	b := binary.AppendUvarint([]byte(mark), uint64(len(sections)))
	for _, s := range sections {
		b = binary.AppendUvarint(b, uint64(s.Id))
		b = binary.AppendUvarint(b, uint64(len(s.Body)))
		b = append(b, s.Body...)
	}
	return binary.LittleEndian.AppendUint32(b, crc32.ChecksumIEEE(b))
}

func soundLists() [][]api.Section {
	return [][]api.Section{
		nil,
		{},
		{section(1, "")},
		{section(255, "x")},
		{section(1, "abc"), section(200, "")},
		{section(127, "\x00\xff"), section(128, strings.Repeat("y", 128)), section(129, strings.Repeat("z", 1<<14))},
		{section(1, ""), section(2, ""), section(255, "")},
		rising(1, 64),
		rising(192, 64),
		rising(100, 63),
	}
}

func marks() []string { return []string{mark, "\x00\x00\x00\x00\x00\x00\x00\x00", "\xff\xfe\x80 mark"} }

// P409

func TestSeal(t *testing.T) {
	for _, mark := range marks() {
		for _, sections := range soundLists() {
			got, e := octet.Seal(mark, sections)
			if e != api.OK {
				t.Errorf("Seal(%q, %d sections): %d", mark, len(sections), e)
			}
			expectBytes(t, "sealed", got, plainSeal(mark, sections))
		}
	}
}

func expectNoSeal(t *testing.T, mark string, sections []api.Section, e api.Errno) {
	t.Helper()
	got, err := octet.Seal(mark, sections)
	if len(got) != 0 || err != e {
		t.Errorf("Seal(%q, %d sections) = %s, %d, want %d", mark, len(sections), short(got), err, e)
	}
}

func TestSealRefuses(t *testing.T) {
	for _, mark := range []string{"", "PAYOFF1", "PAYOFF1\n\n", strings.Repeat("m", 300)} {
		expectNoSeal(t, mark, nil, api.ErrArg)
		expectNoSeal(t, mark, bare(2, 1), api.ErrArg)
	}
	for _, ids := range [][]int{{0}, {-1}, {least}, {256}, {most}, {257}, {1, 1}, {2, 1}, {1, 2, 2}, {1, 3, 2}, {255, 256}, {0, 1}, {-1, 1}, {1, 2, 0}, {5, -5}, {1 << 32}, {1<<32 + 1}} {
		expectNoSeal(t, mark, bare(ids...), api.ErrSection)
	}
	expectNoSeal(t, mark, rising(1, 65), api.ErrSection)
	expectNoSeal(t, mark, rising(1, 255), api.ErrSection)
	expectNoSeal(t, mark, make([]api.Section, 1000), api.ErrSection)
}

func TestSealSharesNoMemory(t *testing.T) {
	memory := []byte("abcdef")
	sections := []api.Section{{Id: 1, Body: memory[:2]}, {Id: 2, Body: memory[2:4]}, section(3, "far")}
	got, _ := octet.Seal(mark, sections[:2])
	again, _ := octet.Seal(mark, sections[:2])
	expectBytes(t, "what was handed in", memory, []byte("abcdef"))
	if !same(sections, []api.Section{section(1, "ab"), section(2, "cd"), section(3, "far")}) {
		t.Errorf("the sections have become %v", sections)
	}
	clear(got[:cap(got)])
	expectBytes(t, "the bodies", memory, []byte("abcdef"))
	expectBytes(t, "another answer", again, plainSeal(mark, sections[:2]))
}

// P410

func expectSections(t *testing.T, mark string, b []byte, want []api.Section) {
	t.Helper()
	got, at, e := octet.Unseal(mark, b)
	if e != api.OK || at != 0 || !same(got, want) {
		t.Errorf("Unseal(%q, %s) = %d sections, %d, %d, want %d like those sealed", mark, short(b), len(got), at, e, len(want))
	}
}

func TestUnsealOfSealed(t *testing.T) {
	for _, mark := range marks() {
		for _, sections := range soundLists() {
			expectSections(t, mark, plainSeal(mark, sections), sections)
		}
	}
}

func TestUnsealWithNoMark(t *testing.T) {
	b := plainSeal(mark, nil)
	for _, mark := range []string{"", "P", "PAYOFF1", "PAYOFF1\n\x00", "PAYOFF1\n\x00\x00"} {
		for _, b := range [][]byte{b, nil, []byte("x"), []byte(mark)} {
			if got, at, e := octet.Unseal(mark, b); got != nil || at != 0 || e != api.ErrArg {
				t.Errorf("Unseal(%q, % x) = %v, %d, %d", mark, b, got, at, e)
			}
		}
	}
}

func TestUnsealOfAnotherMark(t *testing.T) {
	whole := plainSeal(mark, rising(1, 3))
	for n := range len(whole) {
		for i := range min(n, 8) {
			b := bytes.Clone(whole[:n])
			b[i] ^= 0x20
			expectRefused(t, b, i, api.ErrMagic)
			b[7%n] ^= 0x01
			expectRefused(t, b, min(i, 7%n), api.ErrMagic)
		}
	}
	// Another mark tells ahead of all else that is wrong.
	expectRefused(t, []byte("x"), 0, api.ErrMagic)
	expectRefused(t, []byte("PAYOFF1\r"), 7, api.ErrMagic)
	expectRefused(t, []byte("PAYOFF1\r\x00"), 7, api.ErrMagic)
	expectRefused(t, summed("PAYOFF2\n\x41"), 6, api.ErrMagic)
}

func TestUnsealOfTooFewBytes(t *testing.T) {
	for n := range 13 {
		expectRefused(t, []byte(mark + "\x00\x00\x00\x00\x00")[:n], n, api.ErrShort)
		expectRefused(t, plainSeal(mark, nil)[:n], n, api.ErrShort)
		expectRefused(t, plainSeal(mark, rising(1, 64))[:n], n, api.ErrShort)
	}
	// A mark and its checksum alone have no number of sections.
	expectRefused(t, summed(mark), 12, api.ErrShort)
}

func TestUnsealOfAWrongSum(t *testing.T) {
	for _, sections := range soundLists() {
		whole := plainSeal(mark, sections)
		for i := 8; i < min(len(whole), 400); i++ {
			b := bytes.Clone(whole)
			b[i] ^= 0x10
			expectRefused(t, b, len(b)-4, api.ErrSum)
		}
		end := len(whole) - 4
		b := bytes.Clone(whole)
		slices.Reverse(b[end:])
		expectRefused(t, b, end, api.ErrSum)
		expectRefused(t, append(whole[:len(whole):len(whole)], 0), end+1, api.ErrSum)
	}
	// A wrong sum tells ahead of what is wrong with the sections.
	for _, inner := range []string{"\x41", "\x80", "\x80\x00", "\x00\x07", "\x01\x00\x00", "\x01\x01\x05"} {
		b := summed(mark + inner)
		b[len(b)-1] ^= 1
		expectRefused(t, b, len(b)-4, api.ErrSum)
	}
}

func TestUnsealOfWrongSections(t *testing.T) {
	far := strings.Repeat("\xff", 9)
	for _, c := range []struct {
		inner string
		place int
		want  api.Errno
	}{
		// the number of sections
		{"\x80", 9, api.ErrShort},
		{far, 17, api.ErrShort},
		{far + "\x80", 8, api.ErrVarint},
		{far + "\x80\x00", 8, api.ErrVarint},
		{far + "\x02", 8, api.ErrVarint},
		{far + "\x01", 8, api.ErrSection},
		{far + "\x00", 8, api.ErrVarint},
		{"\x81\x00", 8, api.ErrVarint},
		{"\x41", 8, api.ErrSection},
		{"\x80\x01", 8, api.ErrSection},
		{"\x40", 9, api.ErrShort},
		// the Id
		{"\x01", 9, api.ErrShort},
		{"\x01\x80", 10, api.ErrShort},
		{"\x01" + far, 18, api.ErrShort},
		{"\x01" + far + "\x80", 9, api.ErrVarint},
		{"\x01\x81\x00", 9, api.ErrVarint},
		{"\x01\x00", 9, api.ErrSection},
		{"\x01\x00\x80\x00", 9, api.ErrSection},
		{"\x01\x80\x02\x00", 9, api.ErrSection},
		{"\x01\x80\x02", 9, api.ErrSection},
		{"\x01\xff\x01", 11, api.ErrShort},
		{"\x01" + far + "\x01", 9, api.ErrSection},
		{"\x01\x80\x80\x80\x80\x10\x00", 9, api.ErrSection},
		{"\x01\x81\x80\x80\x80\x10\x00", 9, api.ErrSection},
		// the length
		{"\x01\x01", 10, api.ErrShort},
		{"\x01\x01\x80", 11, api.ErrShort},
		{"\x01\x01\x80\x00", 10, api.ErrVarint},
		{"\x01\x01" + far + "\x80", 10, api.ErrVarint},
		{"\x01\x01" + far, 19, api.ErrShort},
		// the Body
		{"\x01\x01\x01", 11, api.ErrShort},
		{"\x01\x01\x03ab", 13, api.ErrShort},
		{"\x01\x01" + far + "\x01ab", 22, api.ErrShort},
		{"\x01\x01\xff\xff\xff\xff\xff\xff\xff\xff\x7fab", 21, api.ErrShort},
		{"\x01\x01\x80\x80\x80\x80\x80\x80\x80\x80\x80\x01ab", 22, api.ErrShort},
		// a second section
		{"\x02\x01\x00", 11, api.ErrShort},
		{"\x02\x01\x01a\x01\x00", 12, api.ErrSection},
		{"\x02\x02\x01a\x01\x00", 12, api.ErrSection},
		{"\x02\x02\x01a\x00\x00", 12, api.ErrSection},
		{"\x02\xff\x01\x00\x80\x02\x00", 12, api.ErrSection},
		{"\x02\x01\x01a\x02\x02b", 15, api.ErrShort},
		{"\x02\x01\x01a\x80\x00\x00", 12, api.ErrVarint},
		// behind the last
		{"\x00\x00", 9, api.ErrExtra},
		{"\x00\x80", 9, api.ErrExtra},
		{"\x01\x01\x02abc", 13, api.ErrExtra},
		{"\x01\x01\x00\x02\x00", 11, api.ErrExtra},
	} {
		expectRefused(t, summed(mark+c.inner), c.place, c.want)
	}
}

func TestUnsealOfManySections(t *testing.T) {
	for n := range 70 {
		b := plainSeal(mark, rising(1, n))
		if n <= 64 {
			expectSections(t, mark, b, rising(1, n))
		} else {
			expectRefused(t, b, 8, api.ErrSection)
		}
	}
}

// plainInner is the promise's fourth and fifth item, word for word: b is the mark and what stands behind it, without the checksum.
func plainInner(b []byte) ([]api.Section, int, api.Errno) {
	at := 8
	next := func() (x uint64, place int, e api.Errno) {
		x, e, size := plainUint(b[at:], top)
		place = at
		if e == api.ErrShort {
			place = len(b)
		}
		at += size
		return x, place, e
	}
	count, place, e := next()
	if e != api.OK {
		return nil, place, e
	}
	if count > 64 {
		return nil, place, api.ErrSection
	}
	sections := []api.Section{}
	for i := range int(count) {
		id, place, e := next()
		if e != api.OK {
			return nil, place, e
		}
		if id == 0 || id > 255 || i > 0 && int(id) <= sections[i-1].Id {
			return nil, place, api.ErrSection
		}
		size, place, e := next()
		if e != api.OK {
			return nil, place, e
		}
		if uint64(len(b)-at) < size {
			return nil, len(b), api.ErrShort
		}
		sections = append(sections, section(int(id), string(b[at:at+int(size)])))
		at += int(size)
	}
	if at < len(b) {
		return nil, at, api.ErrExtra
	}
	return sections, 0, api.OK
}

func TestUnsealOfAllShortInners(t *testing.T) {
	taken := 0
	everyText([]byte{0, 1, 2, 3, 64, 65, 127, 128, 255}, 5, func(inner []byte) {
		if len(inner) == 0 {
			return
		}
		b := summed(mark + string(inner))
		want, place, e := plainInner(b[:len(b)-4])
		if e != api.OK {
			expectRefused(t, b, place, e)
			return
		}
		taken++
		expectSections(t, mark, b, want)
		again, e := octet.Seal(mark, want)
		if e != api.OK {
			t.Errorf("Seal of %v: %d", want, e)
		}
		expectBytes(t, "sealed again", again, b)
	})
	if taken < 50 {
		t.Errorf("only %d lists were taken", taken)
	}
}

func TestUnsealSharesNoMemory(t *testing.T) {
	want := []api.Section{section(1, "abc"), section(2, ""), section(3, "def")}
	memory := append(plainSeal(mark, want), "spare room"...)
	before := bytes.Clone(memory)
	b := memory[:len(memory)-10]
	got, _, _ := octet.Unseal(mark, b)
	again, _, _ := octet.Unseal(mark, b)
	expectBytes(t, "what was handed in", memory, before)
	for i := range got {
		grown := append(got[i].Body, "????????????????"...)
		clear(grown)
		for j := i + 1; j < len(got); j++ {
			expectBytes(t, "another body", got[j].Body, want[j].Body)
		}
		clear(got[i].Body[:cap(got[i].Body)])
	}
	expectBytes(t, "what was handed in", memory, before)
	clear(memory)
	if !same(again, want) {
		t.Errorf("what was answered has become %v", again)
	}
}

// P411

func randomSections(chance *rand.Rand) []api.Section {
	ids := chance.Perm(255)[:chance.Intn(9)]
	slices.Sort(ids)
	sections := make([]api.Section, len(ids))
	for i, id := range ids {
		body := make([]byte, chance.Intn(5)*chance.Intn(60))
		chance.Read(body)
		sections[i] = api.Section{Id: id + 1, Body: body}
	}
	return sections
}

func TestUnsealGivesBackWhatSealWrites(t *testing.T) {
	chance := rand.New(rand.NewSource(11))
	for range 2000 {
		sections := randomSections(chance)
		b, e := octet.Seal(mark, sections)
		if e != api.OK {
			t.Fatalf("Seal(%v): %d", sections, e)
		}
		expectSections(t, mark, b, sections)
	}
}

// turn turns the bits of a pattern, the first of them being bit at of b.
func turn(b []byte, at int, pattern uint64) {
	for ; pattern > 0; pattern >>= 1 {
		b[at/8] ^= byte(pattern&1) << (at % 8)
		at++
	}
}

func TestTurnedBitsAreRefused(t *testing.T) {
	chance := rand.New(rand.NewSource(12))
	for _, sections := range [][]api.Section{nil, {section(7, "")}, {section(1, "abc"), section(200, "\x00\x00\x00\x00\xff")}, randomSections(chance)} {
		whole := plainSeal(mark, sections)
		for length := 1; length <= 32; length++ {
			for at := range 8*len(whole) - length + 1 {
				pattern := chance.Uint64()%(1<<length) | 1 | 1<<(length-1)
				b := bytes.Clone(whole)
				turn(b, at, pattern)
				if got, _, e := octet.Unseal(mark, b); e == api.OK || len(got) != 0 {
					t.Fatalf("bits %b turned from bit %d on: taken", pattern, at)
				}
			}
		}
	}
}

// The polynomial's own 33 bits turned are the shortest that a checksum cannot see: 32 is the most that can be promised.
func TestThirtyThreeTurnedBitsMayBeTaken(t *testing.T) {
	body := make([]byte, 16)
	b := plainSeal(mark, []api.Section{{Id: 1, Body: body}})
	turn(b, 8*12, 1|0xEDB88320<<1)
	got, _, e := octet.Unseal(mark, b)
	if e != api.OK || len(got) != 1 || bytes.Equal(got[0].Body, body) {
		t.Errorf("Unseal = %v, %d", got, e)
	}
}
