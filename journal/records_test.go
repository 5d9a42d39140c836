package journal_test

import (
	"bytes"
	"math"
	"strings"
	"testing"

	"payoff/api"
	"payoff/journal"
)

// sizes: lengths of bodies: those at which the length's own bytes become more, and others.
var sizes = []int{0, 1, 2, 3, 4, 5, 7, 8, 9, 31, 126, 127, 128, 129, 255, 256, 257, 16383, 16384, 16385, 65536, 2097151, 2097152}

// P2101
func TestNew(t *testing.T) {
	wantHeld(t, journal.New(), nil)
}

// P2101, P2102: each kind.
func TestKinds(t *testing.T) {
	j := journal.New()
	var all []api.Record
	for kind := 1; kind <= 255; kind++ {
		r := record(kind, strings.Repeat("b", kind%3))
		if e := j.Append(r); e != api.OK {
			t.Fatalf("Append of kind %d: %d", kind, e)
		}
		all = append(all, r)
	}
	wantHeld(t, j, all)
	wantOpened(t, j.Bytes(), all, len(j.Bytes()))
}

// P2101, P2102: bodies of many lengths.
func TestBodies(t *testing.T) {
	for _, size := range sizes {
		body := make([]byte, size)
		for i := range body {
			body[i] = byte(i*7 + i>>8)
		}
		all := []api.Record{{Kind: 3, Body: body}, record(4, "behind"), {Kind: 5, Body: body}}
		j := filled(t, all...)
		wantHeld(t, j, all)
		wantGoesOn(t, j, all, j.Bytes())
	}
	// A body that is nil is one without bytes.
	j := filled(t, api.Record{Kind: 1}, api.Record{Kind: 2, Body: []byte{}})
	wantHeld(t, j, []api.Record{record(1, ""), record(2, "")})
}

// P2101, P2102: after each record, what the journal tells.
func TestOneBehindTheOther(t *testing.T) {
	j := journal.New()
	var all []api.Record
	for n := range 300 {
		r := record(1+n%255, strings.Repeat("n", n%5))
		if e := j.Append(r); e != api.OK {
			t.Fatalf("Append: %d", e)
		}
		all = append(all, r)
		wantHeld(t, j, all)
	}
	ends := j.Ends()
	for i, end := range ends[1:] {
		if end <= ends[i] {
			t.Fatalf("the ends do not rise: %d, %d", ends[i], end)
		}
	}
}

// P2102: what is refused, by the first that applies; then nothing has changed.
func TestAppendRefuses(t *testing.T) {
	long := make([]byte, 4194306)
	for _, all := range [][]api.Record{nil, {record(7, "hi")}, {record(7, "hi"), record(255, "")}} {
		j := filled(t, all...)
		for _, kind := range []int{0, -1, -7, 256, 257, 263, -255, -256, 512, 1 << 32, 1<<32 + 1, math.MinInt, math.MaxInt, math.MinInt + 7} {
			for _, body := range [][]byte{nil, {}, []byte("x"), long[:4194305], long} {
				if e := j.Append(api.Record{Kind: kind, Body: body}); e != api.ErrArg {
					t.Fatalf("Append of kind %d, %d bytes: %d", kind, len(body), e)
				}
			}
		}
		for _, kind := range []int{1, 2, 254, 255} {
			for _, body := range [][]byte{long[:4194305], long} {
				if e := j.Append(api.Record{Kind: kind, Body: body}); e != api.ErrLong {
					t.Fatalf("Append of kind %d, %d bytes: %d", kind, len(body), e)
				}
			}
		}
		wantHeld(t, j, all)
		wantGoesOn(t, j, all, j.Bytes())
	}
}

// P2102: the longest body.
func TestLongestBody(t *testing.T) {
	body := bytes.Repeat([]byte("\xa7\x00\x01"), 1398102)[:4194304]
	all := []api.Record{record(1, "ahead"), {Kind: 255, Body: body}, record(2, "behind"), {Kind: 1, Body: body[1:]}}
	j := filled(t, all...)
	wantHeld(t, j, all)
	wantOpened(t, j.Bytes(), all, len(j.Bytes()))
}

// P2101: the calls that tell something change nothing, also where they are called side by side.
func TestToldSideBySide(t *testing.T) {
	var all []api.Record
	for n := range 60 {
		all = append(all, record(1+n, strings.Repeat("s", n)))
	}
	j := filled(t, all...)
	done := make(chan bool)
	for range 8 {
		go func() {
			defer func() { done <- true }()
			for range 200 {
				for i, want := range all {
					if r, e := j.Record(i); e != api.OK || !sameRecord(r, want) {
						t.Errorf("Record(%d) = %d, %q, %d", i, r.Kind, r.Body, e)
						return
					}
				}
			}
		}()
	}
	for range 8 {
		<-done
	}
	wantHeld(t, j, all)
}

// P2101: journals know nothing of each other.
func TestJournalsKnowNothingOfEachOther(t *testing.T) {
	one, two := journal.New(), journal.New()
	b := filled(t, record(5, "both")).Bytes()
	three, _, _ := journal.Open(b)
	four, _, _ := journal.Open(b)
	one.Append(record(1, "one"))
	two.Append(record(2, "two"))
	three.Append(record(3, "three"))
	four.Append(record(4, "four"))
	wantHeld(t, one, []api.Record{record(1, "one")})
	wantHeld(t, two, []api.Record{record(2, "two")})
	wantHeld(t, three, []api.Record{record(5, "both"), record(3, "three")})
	wantHeld(t, four, []api.Record{record(5, "both"), record(4, "four")})
	wantHeld(t, journal.New(), nil)
}
