package journal_test

import (
	"bytes"
	"encoding/binary"
	"slices"
	"testing"

	"payoff/api"
	"payoff/journal"
)

// wantRecord: the i-th record, alone.
func wantRecord(t *testing.T, j *journal.Journal, i int, want api.Record) {
	t.Helper()
	if r, e := j.Record(i); e != api.OK || !sameRecord(r, want) {
		t.Errorf("Record(%d) = %d, %x (%d bytes), %d", i, r.Kind, short(r.Body), len(r.Body), e)
	}
}

// P2101 to P2104: so many records that their numbers have two, three and four bytes.
func TestManyRecords(t *testing.T) {
	const many = 1<<21 + 3
	body := func(n int) []byte { return binary.LittleEndian.AppendUint32(nil, uint32(n))[:n%5] }
	j := journal.New()
	want, wantEnds := []byte(plainHead), []int(nil)
	for n := range many {
		r := api.Record{Kind: 1 + n%255, Body: body(n)}
		if e := j.Append(r); e != api.OK {
			t.Fatalf("Append of record %d: %d", n, e)
		}
		want = append(want, plainRecord(n, r)...)
		wantEnds = append(wantEnds, len(want))
	}
	opened, count, e := journal.Open(want)
	if e != api.OK || count != len(want) {
		t.Fatalf("Open = %d of %d bytes, %d", count, len(want), e)
	}
	for _, j := range []*journal.Journal{j, opened} {
		if j.Count() != many || !bytes.Equal(j.Bytes(), want) {
			t.Fatalf("%d records, %d bytes, want %d, %d", j.Count(), len(j.Bytes()), many, len(want))
		}
		for _, n := range []int{0, 1, 126, 127, 128, 129, 16382, 16383, 16384, 16385, 1 << 20, 1<<21 - 1, 1 << 21, many - 1} {
			wantRecord(t, j, n, api.Record{Kind: 1 + n%255, Body: body(n)})
		}
		if !slices.Equal(j.Ends(), wantEnds) {
			t.Errorf("the ends are other ones")
		}
	}
}

// P2102, P2103, P2106: as long as a journal may be, and longer. (One test, as each of these lists is 2^28 bytes.)
func TestMaxJournal(t *testing.T) {
	const most = 1 << 28
	body := bytes.Repeat([]byte("longest "), 4194304/8)
	j := journal.New()
	for n := range 63 {
		if e := j.Append(api.Record{Kind: 1 + n, Body: body}); e != api.OK {
			t.Fatalf("Append of record %d: %d", n, e)
		}
	}
	used := 8 + 63*(1+1+1+4+4194304+4)
	wantFull(t, j, 63, body, body[:most-used-10], body[:most-used-11+1])
	last := api.Record{Kind: 255, Body: body[:most-used-11]}
	if e := j.Append(last); e != api.OK {
		t.Fatalf("Append of what just fits: %d", e)
	}
	wantFull(t, j, 64, nil, body[:1], body)
	b := j.Bytes()
	if ends := j.Ends(); len(b) != most || len(ends) != 64 || ends[62] != used || ends[63] != most {
		t.Fatalf("%d bytes, %v", len(b), ends)
	}
	wantRecord(t, j, 62, api.Record{Kind: 63, Body: body})
	wantRecord(t, j, 63, last)
	opened, count, e := journal.Open(b)
	if e != api.OK || count != most || opened.Count() != 64 {
		t.Fatalf("Open of all bytes: %d, %d", count, e)
	}
	wantRecord(t, opened, 63, last)
	wantFull(t, opened, 64, nil, body[:1])
	cutAtTheEnd(t, b, last, used)
	longer := append(b, 0, 0)
	wantRefused(t, longer, api.ErrLong)
	wantRefused(t, longer[:most+1], api.ErrLong)
	wantRefused(t, longer[1:most+1], api.ErrMagic)
	longer[0] = 'X'
	wantRefused(t, longer[:most], api.ErrMagic)
	wantRefused(t, longer[:most+1], api.ErrLong)
}

// wantFull: a journal has no room for such bodies; other reasons come first, and nothing changes.
func wantFull(t *testing.T, j *journal.Journal, count int, bodies ...[]byte) {
	t.Helper()
	for _, body := range bodies {
		for kind, want := range map[int]api.Errno{1: api.ErrFull, 255: api.ErrFull, 0: api.ErrArg, 256: api.ErrArg} {
			if e := j.Append(api.Record{Kind: kind, Body: body}); e != want {
				t.Errorf("Append of kind %d, %d bytes: %d, want %d", kind, len(body), e, want)
			}
		}
	}
	if e := j.Append(api.Record{Kind: 1, Body: make([]byte, 4194305)}); e != api.ErrLong {
		t.Errorf("Append of a long body: %d", e)
	}
	if j.Count() != count || len(j.Ends()) != count {
		t.Errorf("%d records, want %d", j.Count(), count)
	}
	if _, e := j.Record(count); e != api.ErrRange {
		t.Errorf("Record(%d): %d", count, e)
	}
}

// cutAtTheEnd: the longest journal without its last byte has its last record no more, and room for it again.
func cutAtTheEnd(t *testing.T, b []byte, last api.Record, used int) {
	t.Helper()
	j, count, e := journal.Open(b[:len(b)-1])
	if e != api.OK || count != used || j.Count() != 63 {
		t.Fatalf("Open = %d, %d", count, e)
	}
	wantFull(t, j, 63, make([]byte, len(last.Body)+1))
	if e := j.Append(last); e != api.OK {
		t.Fatalf("Append of what just fits: %d", e)
	}
	if !bytes.Equal(j.Bytes(), b) {
		t.Error("the bytes are other ones")
	}
}
