package journal_test

import (
	"encoding/binary"
	"math/rand"
	"slices"
	"testing"

	"payoff/api"
	"payoff/journal"
)

// someBody: bytes by chance, of which many look like parts of records.
func someBody(chance *rand.Rand) []byte {
	body := make([]byte, []int{0, 1, 2, 5, chance.Intn(20), 120 + chance.Intn(16), chance.Intn(700)}[chance.Intn(7)])
	for i := range body {
		body[i] = []byte{0xa7, 0, 1, 2, 127, 128, 255, byte(chance.Intn(256))}[chance.Intn(8)]
	}
	if chance.Intn(6) == 0 {
		body = append(body, plainRecord(chance.Intn(6), record(1, "in"))...)
	}
	return body
}

func someRecords(chance *rand.Rand) []api.Record {
	records := make([]api.Record, chance.Intn(7))
	if chance.Intn(20) == 0 {
		records = make([]api.Record, 126+chance.Intn(5))
	}
	for i := range records {
		records[i] = api.Record{Kind: []int{1, 255, 0xa7, 1 + chance.Intn(255)}[chance.Intn(4)], Body: someBody(chance)}
	}
	return records
}

// P2101, P2102, P2105, P2106: records by chance.
func TestRecordsByChance(t *testing.T) {
	t.Parallel()
	chance := rand.New(rand.NewSource(2111))
	for range 3000 {
		all := someRecords(chance)
		j := filled(t, all...)
		wantHeld(t, j, all)
		b := j.Bytes()
		wantOpened(t, b, all, len(b))
		holdOpen(t, b[:chance.Intn(len(b)+1)])
	}
}

// P2102: right and wrong records by chance: those that are refused leave nothing behind.
func TestAppendsByChance(t *testing.T) {
	t.Parallel()
	chance := rand.New(rand.NewSource(2112))
	long := make([]byte, 4194305)
	for range 1000 {
		j := journal.New()
		var all []api.Record
		for range chance.Intn(12) {
			r := api.Record{Kind: chance.Intn(400) - 70, Body: someBody(chance)}
			if chance.Intn(5) == 0 {
				r.Body = long
			}
			want := api.OK
			switch {
			case r.Kind < 1 || r.Kind > 255:
				want = api.ErrArg
			case len(r.Body) > 4194304:
				want = api.ErrLong
			default:
				all = append(all, r)
			}
			if e := j.Append(r); e != want {
				t.Fatalf("Append of kind %d, %d bytes: %d, want %d", r.Kind, len(r.Body), e, want)
			}
		}
		wantHeld(t, j, all)
	}
}

// spoilt changes bytes in one place, takes some away, puts some in, or puts a piece of them elsewhere.
func spoilt(chance *rand.Rand, b []byte) []byte {
	at := chance.Intn(len(b) + 1)
	to := min(len(b), at+chance.Intn(4))
	if chance.Intn(4) == 0 {
		to = at + chance.Intn(len(b)-at+1)
	}
	put := make([]byte, chance.Intn(4))
	for i := range put {
		put[i] = []byte{0, 1, 2, 127, 128, 129, 0xa7, 255, byte(chance.Intn(256))}[chance.Intn(9)]
	}
	if chance.Intn(4) == 0 {
		from := chance.Intn(len(b) + 1)
		put = b[from : from+chance.Intn(len(b)-from+1)]
	}
	return slices.Concat(b[:at], put, b[to:])
}

// P2103, P2104: bytes changed somewhere.
func TestSpoiltBytes(t *testing.T) {
	t.Parallel()
	chance := rand.New(rand.NewSource(2113))
	found := map[int]int{}
	for range 20000 {
		b, _ := plainBytes(someRecords(chance))
		found[holdOpen(t, spoilt(chance, b))]++
	}
	for _, count := range []int{-1, 0, 1, 2, 3} {
		if found[count] < 200 {
			t.Errorf("%d records were found %d times alone: %v", count, found[count], found)
		}
	}
}

// someVarint: a number's bytes, most of the time in their shortest form.
func someVarint(chance *rand.Rand, x uint64) []byte {
	b := binary.AppendUvarint(nil, x)
	if chance.Intn(12) == 0 {
		b[len(b)-1] |= 128
		b = append(b, 0)
	}
	return b
}

// P2103, P2104: records under right checksums, of which any part may be wrong.
func TestSpoiltParts(t *testing.T) {
	t.Parallel()
	chance := rand.New(rand.NewSource(2114))
	found := map[int]int{}
	for range 20000 {
		b := []byte(plainHead)
		for number := range 1 + chance.Intn(5) {
			body := someBody(chance)
			r := []byte{0xa7}
			if chance.Intn(20) == 0 {
				r[0] = byte(chance.Intn(256))
			}
			r = append(r, someVarint(chance, uint64(max(0, number+chance.Intn(20)/19)))...)
			r = append(r, byte(chance.Intn(256)*(chance.Intn(20)+1)/20))
			r = append(r, someVarint(chance, uint64(max(0, len(body)+chance.Intn(25)/24-chance.Intn(25)/24)))...)
			b = append(b, plainSummed(append(r, body...)...)...)
		}
		found[holdOpen(t, b)]++
	}
	for count := range 6 {
		if found[count] < 100 {
			t.Errorf("%d records were found %d times alone: %v", count, found[count], found)
		}
	}
}

// P2103: bytes by chance, with the head ahead of them or without.
func TestBytesByChance(t *testing.T) {
	t.Parallel()
	chance := rand.New(rand.NewSource(2115))
	for range 20000 {
		b := make([]byte, chance.Intn(24))
		for i := range b {
			b[i] = []byte{'P', 0xa7, 0, 1, 2, 128, byte(chance.Intn(256))}[chance.Intn(7)]
		}
		holdOpen(t, b)
		holdOpen(t, journalOf(b))
		holdOpen(t, append([]byte(plainHead)[:chance.Intn(9)], b...))
	}
}

// P2101 to P2106: whatever the bytes are.
func FuzzOpen(f *testing.F) {
	for _, all := range someJournals() {
		b, _ := plainBytes(all)
		f.Add(b)
		f.Add(b[:len(b)-1])
	}
	f.Add([]byte("PAYJ"))
	f.Add([]byte("PAYJRNL2"))
	f.Fuzz(func(t *testing.T, b []byte) { holdOpen(t, b) })
}
