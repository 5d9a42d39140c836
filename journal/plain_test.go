package journal_test

import (
	"bytes"
	"encoding/binary"
	"hash/crc32"
	"math"
	"slices"
	"testing"

	"payoff/api"
	"payoff/journal"
)

// The chapter's words said once more, with the library's means.

const plainHead = "PAYJRNL1"

// plainSummed: bytes, and their checksum behind them.
func plainSummed(b ...byte) []byte {
	return binary.LittleEndian.AppendUint32(slices.Clone(b), crc32.ChecksumIEEE(b))
}

// plainRecord: the bytes of the record of a number.
func plainRecord(number int, r api.Record) []byte {
	b := binary.AppendUvarint([]byte{0xa7}, uint64(number))
	b = binary.AppendUvarint(append(b, byte(r.Kind)), uint64(len(r.Body)))
	return plainSummed(append(b, r.Body...)...)
}

// plainBytes: the bytes of a journal of records, and each record's end.
func plainBytes(records []api.Record) ([]byte, []int) {
	b, ends := []byte(plainHead), []int(nil)
	for n, r := range records {
		b = append(b, plainRecord(n, r)...)
		ends = append(ends, len(b))
	}
	return b, ends
}

// plainRead: the record of a number that b begins with, and how many bytes it has: 0, if none stands there whole.
func plainRead(b []byte, number int) (api.Record, int) {
	if len(b) == 0 {
		return api.Record{}, 0
	}
	at := 1
	_, width := binary.Uvarint(b[at:])
	if width <= 0 || at+width >= len(b) {
		return api.Record{}, 0
	}
	at += width
	kind := int(b[at])
	at++
	size, width := binary.Uvarint(b[at:])
	if width <= 0 || kind == 0 || size > 4194304 || size > uint64(len(b)-at-width) {
		return api.Record{}, 0
	}
	at += width
	r := api.Record{Kind: kind, Body: b[at : at+int(size)]}
	// What stands there must be what would have been written.
	written := plainRecord(number, r)
	if !bytes.HasPrefix(b, written) {
		return api.Record{}, 0
	}
	return r, len(written)
}

// plainOpen: what Open must find.
func plainOpen(b []byte) ([]api.Record, int, api.Errno) {
	if len(b) > 268435456 {
		return nil, 0, api.ErrLong
	}
	if len(b) < 8 && plainHead[:len(b)] == string(b) {
		return nil, 0, api.OK
	}
	if len(b) < 8 || string(b[:8]) != plainHead {
		return nil, 0, api.ErrMagic
	}
	var records []api.Record
	count := 8
	for {
		r, size := plainRead(b[count:], len(records))
		if size == 0 {
			return records, count, api.OK
		}
		records, count = append(records, r), count+size
	}
}

func sameRecord(a, b api.Record) bool { return a.Kind == b.Kind && bytes.Equal(a.Body, b.Body) }

// short: the beginning of bytes, to be told.
func short(b []byte) []byte { return b[:min(len(b), 60)] }

// wantHeld: a journal tells just these records, also when it is asked again.
func wantHeld(t *testing.T, j *journal.Journal, records []api.Record) {
	t.Helper()
	wantBytes, wantEnds := plainBytes(records)
	for range 2 {
		if j.Count() != len(records) {
			t.Fatalf("Count() = %d, want %d", j.Count(), len(records))
		}
		if b := j.Bytes(); !bytes.Equal(b, wantBytes) {
			t.Fatalf("Bytes() = %x (%d), want %x (%d)", short(b), len(b), short(wantBytes), len(wantBytes))
		}
		if ends := j.Ends(); !slices.Equal(ends, wantEnds) {
			t.Fatalf("Ends() = %v, want %v", ends, wantEnds)
		}
		// From the last to the first, so that none is found by going on from the one ahead.
		for i := len(records) - 1; i >= 0; i-- {
			if r, e := j.Record(i); e != api.OK || !sameRecord(r, records[i]) {
				t.Fatalf("Record(%d) = %d, %x, %d, want %d, %x", i, r.Kind, short(r.Body), e, records[i].Kind, short(records[i].Body))
			}
		}
		for _, i := range []int{-1, len(records), len(records) + 1, math.MinInt, math.MaxInt, 1 << 32, -1 << 32} {
			if r, e := j.Record(i); e != api.ErrRange || r.Kind != 0 || r.Body != nil {
				t.Fatalf("Record(%d) = %d, %x, %d", i, r.Kind, short(r.Body), e)
			}
		}
	}
}

// filled: a journal into which records were put.
func filled(t *testing.T, records ...api.Record) *journal.Journal {
	t.Helper()
	j := journal.New()
	for _, r := range records {
		if e := j.Append(r); e != api.OK {
			t.Fatalf("Append(%d, %x): %d", r.Kind, short(r.Body), e)
		}
	}
	return j
}

// wantOpened: Open finds just these records, and so many bytes count.
func wantOpened(t *testing.T, b []byte, records []api.Record, count int) *journal.Journal {
	t.Helper()
	j, n, e := journal.Open(b)
	if j == nil || n != count || e != api.OK {
		t.Fatalf("Open(%x) (%d bytes) = %d, %d, want %d", short(b), len(b), n, e, count)
	}
	wantHeld(t, j, records)
	return j
}

// wantRefused: Open answers an error alone.
func wantRefused(t *testing.T, b []byte, want api.Errno) {
	t.Helper()
	if j, n, e := journal.Open(b); j != nil || n != 0 || e != want {
		t.Fatalf("Open(%x) (%d bytes) = %v, %d, %d, want %d", short(b), len(b), j, n, e, want)
	}
}

// holdOpen: Open finds what the words say, and what is appended then stands behind that. It tells how many records there are, -1 with an error.
func holdOpen(t *testing.T, b []byte) int {
	t.Helper()
	records, count, e := plainOpen(b)
	if e != api.OK {
		wantRefused(t, b, e)
		return -1
	}
	j := wantOpened(t, b, records, count)
	wantGoesOn(t, j, records, b[:count])
	return len(records)
}

// wantGoesOn: what is appended to a journal of these records stands behind them, and behind the bytes that counted.
func wantGoesOn(t *testing.T, j *journal.Journal, records []api.Record, counted []byte) {
	t.Helper()
	all := slices.Clip(records)
	for _, r := range []api.Record{record(9, "more"), record(255, ""), record(1, "\xa7")} {
		if e := j.Append(r); e != api.OK {
			t.Fatalf("Append(%d, %q): %d", r.Kind, r.Body, e)
		}
		all = append(all, r)
		wantHeld(t, j, all)
	}
	b := j.Bytes()
	if !bytes.HasPrefix(b, counted) {
		t.Fatalf("%x is not what %x begins with", short(counted), short(b))
	}
	wantOpened(t, b, all, len(b))
}

func record(kind int, body string) api.Record { return api.Record{Kind: kind, Body: []byte(body)} }
