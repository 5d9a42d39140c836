package journal_test

import (
	"bytes"
	"slices"
	"strings"
	"testing"

	"payoff/api"
)

// journalOf: the head, and pieces behind it.
func journalOf(pieces ...[]byte) []byte { return append([]byte(plainHead), bytes.Join(pieces, nil)...) }

// P2103: beginnings of the head, and what is none.
func TestHead(t *testing.T) {
	whole := filled(t, record(7, "hi")).Bytes()
	for n := range 8 {
		wantOpened(t, whole[:n], nil, 0)
		wantGoesOn(t, wantOpened(t, whole[:n], nil, 0), nil, nil)
		for bit := range n * 8 {
			turned := slices.Clone(whole[:n])
			turned[bit/8] ^= 1 << (bit % 8)
			wantRefused(t, turned, api.ErrMagic)
		}
		// Less than a head, but not its beginning.
		wantRefused(t, append(slices.Clone(whole[:n]), 'x'), api.ErrMagic)
		if n > 0 {
			wantRefused(t, whole[1:n+1], api.ErrMagic)
		}
	}
	wantOpened(t, whole[:8], nil, 8)
	for size := 8; size <= len(whole); size++ {
		for bit := range 64 {
			turned := slices.Clone(whole[:size])
			turned[bit/8] ^= 1 << (bit % 8)
			wantRefused(t, turned, api.ErrMagic)
		}
	}
	wantRefused(t, whole[8:], api.ErrMagic)
	wantRefused(t, []byte("payjrnl1"), api.ErrMagic)
	wantRefused(t, []byte("PAYOFF1\n"), api.ErrMagic)
	wantRefused(t, []byte(" "+plainHead), api.ErrMagic)
	wantRefused(t, make([]byte, 7), api.ErrMagic)
	wantRefused(t, make([]byte, 8), api.ErrMagic)
}

// P2103: what stands behind the last whole record does not count, though whole records stand there.
func TestBehindTheLast(t *testing.T) {
	all := []api.Record{record(7, "hi"), record(8, "there")}
	whole, ends := plainBytes(all)
	third := plainRecord(2, record(9, "third"))
	for _, junk := range []string{"\x00", "\xa7", "\xa7\x02", "\xa7\x02\x01", "\xa7\x02\x01\x00", "\xa7\x02\x01\x00\x00\x00\x00\x00", "\xff", plainHead, string(whole), strings.Repeat("\x00", 5000)} {
		wantOpened(t, append(slices.Clone(whole), junk...), all, ends[1])
		wantOpened(t, slices.Concat(whole, []byte(junk), third), all, ends[1])
		holdOpen(t, append(slices.Clone(whole), junk...))
		wantOpened(t, journalOf([]byte(junk), whole[8:], third), nil, 8)
	}
	wantOpened(t, append(slices.Clone(whole), third...), append(slices.Clone(all), record(9, "third")), ends[1]+len(third))
}

// P2104: the record's number must be the next one.
func TestNumbers(t *testing.T) {
	first, second := plainRecord(0, record(7, "hi")), plainRecord(1, record(8, "there"))
	wantOpened(t, journalOf(first, first), []api.Record{record(7, "hi")}, 18)
	wantOpened(t, journalOf(second), nil, 8)
	wantOpened(t, journalOf(second, first), nil, 8)
	for number := range 400 {
		if number != 1 {
			wantOpened(t, journalOf(first, plainRecord(number, record(8, "there"))), []api.Record{record(7, "hi")}, 18)
		}
	}
	for _, number := range []int{1 << 8, 1<<8 + 1, 1 << 31, 1<<32 + 1, 1 << 62, -1, -1 << 63} {
		wantOpened(t, journalOf(first, plainRecord(number, record(8, "there"))), []api.Record{record(7, "hi")}, 18)
	}
	wantOpened(t, journalOf(first, second), []api.Record{record(7, "hi"), record(8, "there")}, 18+len(second))
}

// withNumber: the bytes of the record 0, its number and its length being these bytes.
func withNumber(number string, kind byte, length, body string) []byte {
	return plainSummed([]byte("\xa7" + number + string([]byte{kind}) + length + body)...)
}

// P2104: numbers and lengths in their shortest form alone.
func TestShortestForms(t *testing.T) {
	long := strings.Repeat("x", 128)
	for _, c := range []struct {
		b     []byte
		whole bool
	}{
		{withNumber("\x00", 1, "\x00", ""), true},
		{withNumber("\x80\x00", 1, "\x00", ""), false},
		{withNumber("\x80\x80\x00", 1, "\x00", ""), false},
		{withNumber("\x80\x80\x80\x80\x80\x80\x80\x80\x80\x00", 1, "\x00", ""), false},
		{withNumber("\x80\x80\x80\x80\x80\x80\x80\x80\x80\x02", 1, "\x00", ""), false},
		{withNumber("", 1, "\x00", ""), false},
		{withNumber("\x00", 1, "\x80\x00", ""), false},
		{withNumber("\x00", 1, "\x80\x80\x00", ""), false},
		{withNumber("\x00", 1, "\x80\x80\x80\x80\x80\x80\x80\x80\x80\x00", ""), false},
		{withNumber("\x00", 1, "\x80\x80\x80\x80\x80\x80\x80\x80\x80\x80\x00", ""), false},
		{withNumber("\x00", 1, "\x80\x80\x80\x80\x80\x80\x80\x80\x80\x02", ""), false},
		{withNumber("\x00", 1, "\xff\xff\xff\xff\xff\xff\xff\xff\xff\x01", ""), false},
		{withNumber("\x00", 1, "\xff\xff\xff\xff\xff\xff\xff\xff\x7f", ""), false},
		{withNumber("\x00", 1, "\x80\x80\x80\x80\x80\x80\x80\x80\x80\x01", ""), false},
		{withNumber("\x00", 1, "\x80\x80\x80\x80\x10", ""), false},
		{withNumber("\x00", 1, "", ""), false},
		{withNumber("\x00", 1, "\x02", "ab"), true},
		{withNumber("\x00", 1, "\x82\x00", "ab"), false},
		{withNumber("\x00", 1, "\x01", "ab"), false},
		{withNumber("\x00", 1, "\x03", "ab"), false},
		{withNumber("\x00", 1, "\x80\x01", long), true},
		{withNumber("\x00", 1, "\x80\x81\x00", long), false},
		{withNumber("\x00", 1, "\x7f", long[1:]), true},
		{withNumber("\x00", 1, "\xff\x00", long[1:]), false},
	} {
		found := holdOpen(t, journalOf(c.b))
		if (found == 1) != c.whole {
			t.Errorf("%x: %d records", short(c.b), found)
		}
		// Also where more bytes follow, so that a length is not too long for what is there.
		if found := holdOpen(t, append(journalOf(c.b), make([]byte, 300)...)); (found == 1) != c.whole {
			t.Errorf("%x and more: %d records", short(c.b), found)
		}
	}
}

// P2104: the first byte and the kind's, under a right checksum.
func TestFirstByteAndKind(t *testing.T) {
	for x := range 256 {
		if found := holdOpen(t, journalOf(plainSummed(byte(x), 0, 1, 1, 'b'))); (found == 1) != (x == 0xa7) {
			t.Errorf("a first byte of %x: %d records", x, found)
		}
		if found := holdOpen(t, journalOf(withNumber("\x00", byte(x), "\x01", "b"))); (found == 1) != (x != 0) {
			t.Errorf("a kind of %d: %d records", x, found)
		}
	}
}

// P2104: a body beyond the limit is none, though all its bytes are there.
func TestBodyBeyondTheLimit(t *testing.T) {
	body := strings.Repeat("y", 4194305)
	first := record(7, "hi")
	most := "\x80\x80\x80\x02" // 4194304
	next := func(length, body string) []byte {
		return journalOf(plainRecord(0, first), plainSummed([]byte("\xa7\x01\x09"+length+body)...))
	}
	wantOpened(t, next(most, body[1:]), []api.Record{first, record(9, body[1:])}, 18+7+4194304+4)
	wantOpened(t, next("\x81\x80\x80\x02", body), []api.Record{first}, 18)
	wantOpened(t, next("\xff\xff\xff\x01", body[2:]), []api.Record{first, record(9, body[2:])}, 18+7+4194303+4)
}

// P2104: the checksum is that of all the record's bytes ahead of it, and of no others, the lowest byte first.
func TestChecksum(t *testing.T) {
	lead := []byte("\xa7\x00\x07\x02hi")
	sum := plainSummed(lead...)[6:]
	wantOpened(t, journalOf(lead, sum), []api.Record{record(7, "hi")}, 18)
	turnedAbout := slices.Clone(sum)
	slices.Reverse(turnedAbout)
	for _, wrong := range [][]byte{
		turnedAbout,
		{^sum[0], ^sum[1], ^sum[2], ^sum[3]},
		{0, 0, 0, 0},
		plainSummed(lead[1:]...)[5:],
		plainSummed(lead[4:]...)[2:],
		plainSummed(append([]byte(plainHead), lead...)...)[14:],
		{sum[0], sum[1], sum[2]},
		nil,
	} {
		wantOpened(t, journalOf(lead, wrong), nil, 8)
		holdOpen(t, journalOf(lead, wrong, make([]byte, 8)))
	}
	// The second's is its own alone.
	two := journalOf(lead, sum, []byte("\xa7\x01\x08\x00"))
	wantOpened(t, append(slices.Clone(two), plainSummed(two[8:]...)[14:]...), []api.Record{record(7, "hi")}, 18)
	wantOpened(t, append(slices.Clone(two), plainSummed(two[18:]...)[4:]...), []api.Record{record(7, "hi"), record(8, "")}, 26)
}
