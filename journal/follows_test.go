package journal_test

import (
	"math/rand"
	"slices"
	"strings"
	"testing"

	"payoff/api"
	"payoff/journal"
)

// someJournals: lists of records, of which each is looked at from all sides.
func someJournals() [][]api.Record {
	inner, _ := plainBytes([]api.Record{record(1, "in"), record(2, "")})
	return [][]api.Record{
		nil,
		{record(7, "hi")},
		{record(255, "")},
		{record(1, ""), record(1, ""), record(1, "")},
		{record(7, "hi"), record(8, "there"), record(9, strings.Repeat("z", 130))},
		// Bodies that look like records, and like journals.
		{record(0xa7, "\xa7\xa7"), record(0xa7, string(plainRecord(2, record(3, "x")))), record(2, string(inner)), record(1, string(plainRecord(4, record(4, ""))))},
	}
}

// P2105: Open of a journal's bytes.
func TestOpenOfBytes(t *testing.T) {
	for _, all := range someJournals() {
		j := filled(t, all...)
		wantHeld(t, j, all)
		wantOpened(t, j.Bytes(), all, len(j.Bytes()))
		wantGoesOn(t, j, all, j.Bytes())
	}
}

// within: the records whose end is at most n, and the end of the last of them.
func within(all []api.Record, ends []int, n int) ([]api.Record, int) {
	count, end := 0, 8
	for count < len(ends) && ends[count] <= n {
		end = ends[count]
		count++
	}
	return all[:count], end
}

// P2105, P2106: each beginning of a journal's bytes.
func TestCuts(t *testing.T) {
	for _, all := range someJournals() {
		b, ends := plainBytes(all)
		for n := range len(b) + 1 {
			records, count := within(all, ends, n)
			if n < 8 {
				count = 0
			}
			j := wantOpened(t, b[:n], records, count)
			wantGoesOn(t, j, records, b[:count])
		}
	}
}

// P2105: bytes changed from a place on leave the records ahead of it as they were.
func TestChangedFromAPlaceOn(t *testing.T) {
	chance := rand.New(rand.NewSource(2101))
	for _, all := range someJournals() {
		b, ends := plainBytes(all)
		for place := 8; place <= len(b); place++ {
			for range 8 {
				changed := slices.Clone(b[:place])
				for range chance.Intn(40) {
					changed = append(changed, byte(chance.Intn(256)))
				}
				if chance.Intn(2) == 0 && len(changed) < len(b) {
					changed = append(changed, b[len(changed):]...)
				}
				records, _ := within(all, ends, place)
				j, count, e := journal.Open(changed)
				if e != api.OK || j.Count() < len(records) || count < 8 {
					t.Fatalf("changed from %d on: %d, %d", place, count, e)
				}
				for i, want := range records {
					if r, e := j.Record(i); e != api.OK || !sameRecord(r, want) || j.Ends()[i] != ends[i] {
						t.Fatalf("changed from %d on: record %d is %d, %q, %d", place, i, r.Kind, r.Body, e)
					}
				}
				holdOpen(t, changed)
			}
		}
	}
}

// turn: bytes with the bits of a pattern turned from one bit on.
func turn(b []byte, at int, pattern uint64) []byte {
	turned := slices.Clone(b)
	for ; pattern > 0; pattern, at = pattern>>1, at+1 {
		turned[at/8] ^= byte(pattern&1) << (at % 8)
	}
	return turned
}

// P2105: up to 32 bits next to each other turned, in a record's body or in its checksum: Open stops at it.
func TestTurnedBits(t *testing.T) {
	chance := rand.New(rand.NewSource(2102))
	for _, all := range someJournals() {
		b, ends := plainBytes(all)
		for i, end := range ends {
			_, from := within(all, ends, end-1)
			first, last := (end-4-len(all[i].Body))*8, end*8
			for at := first; at < last; at++ {
				for width := 1; width <= min(32, last-at); width++ {
					// The first and the last of these bits are turned; those between, all, none, or some.
					ends := uint64(1) | 1<<(width-1)
					inner := uint64(1)<<(width-1) - 1
					for _, pattern := range []uint64{ends, ends | inner, ends | inner&chance.Uint64()} {
						j, count, e := journal.Open(turn(b, at, pattern))
						if e != api.OK || j.Count() != i || count != from {
							t.Fatalf("record %d, bits %b turned from %d on: %d records, %d, %d", i, pattern, at, j.Count(), count, e)
						}
					}
				}
			}
		}
	}
}

// P2104: of bits further apart no more is promised than a CRC-32 sees: its polynomial's own 33 bits are the least that it does not.
func TestPolynomialTurned(t *testing.T) {
	const polynomial = 0xEDB88320<<1 | 1
	body := "a body of some length"
	b, ends := plainBytes([]api.Record{record(7, body)})
	for at := 12 * 8; at+33 <= len(b)*8; at++ {
		turned := turn(b, at, polynomial)
		text := string(turned[12 : 12+len(body)])
		wantOpened(t, turned, []api.Record{record(7, text)}, ends[0])
	}
}

// P2105: any one bit turned in a journal: the records ahead of it stand, and it does not.
func TestOneBitTurned(t *testing.T) {
	for _, all := range someJournals() {
		b, ends := plainBytes(all)
		for bit := range len(b) * 8 {
			turned := turn(b, bit, 1)
			if bit < 64 {
				wantRefused(t, turned, api.ErrMagic)
				continue
			}
			records, count := within(all, ends, bit/8)
			wantOpened(t, turned, records, count)
		}
	}
}

// P2106: a journal goes on where it was cut, again and again.
func TestCutAndGoneOn(t *testing.T) {
	chance := rand.New(rand.NewSource(2103))
	var all []api.Record
	b := []byte(plainHead)
	for turn := range 400 {
		j, count, e := journal.Open(b)
		if e != api.OK {
			t.Fatalf("Open: %d", e)
		}
		_, ends := plainBytes(all)
		all, _ = within(all, ends, count)
		for range chance.Intn(4) {
			r := record(1+turn%255, strings.Repeat("c", chance.Intn(20)))
			if e := j.Append(r); e != api.OK {
				t.Fatalf("Append: %d", e)
			}
			all = append(slices.Clip(all), r)
		}
		wantHeld(t, j, all)
		b = j.Bytes()
		b = b[:max(8, len(b)-chance.Intn(25))]
	}
	if len(all) < 20 {
		t.Errorf("%d records alone", len(all))
	}
}
