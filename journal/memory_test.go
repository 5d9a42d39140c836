package journal_test

import (
	"bytes"
	"cmp"
	"math/rand"
	"reflect"
	"slices"
	"testing"

	"payoff/api"
	"payoff/journal"
)

// room is the memory of a list, its spare room included.
type room struct{ from, to uintptr }

func roomOf[T any](list []T) room {
	v := reflect.ValueOf(list)
	return room{v.Pointer(), v.Pointer() + uintptr(v.Cap())*v.Type().Elem().Size()}
}

// told: all lists that a journal tells.
func told(j *journal.Journal) []room {
	all := []room{roomOf(j.Bytes()), roomOf(j.Ends())}
	for i := range j.Count() {
		r, _ := j.Record(i)
		all = append(all, roomOf(r.Body))
	}
	return all
}

// wantApart: no two lists share memory.
func wantApart(t *testing.T, all []room) {
	t.Helper()
	all = slices.DeleteFunc(all, func(r room) bool { return r.from == r.to })
	slices.SortFunc(all, func(a, b room) int { return cmp.Compare(a.from, b.from) })
	for i := range all[min(1, len(all)):] {
		if all[i].to > all[i+1].from {
			t.Fatal("two lists share memory")
		}
	}
}

// roomy: bytes with spare room, in which something lies.
func roomy(b []byte) []byte {
	return append(append(make([]byte, 0, len(b)+40), b...), bytes.Repeat([]byte{0x77}, 40)...)[:len(b)]
}

// wantUntouched: bytes that were made by roomy are as they were, their spare room too.
func wantUntouched(t *testing.T, what string, b, before []byte) {
	t.Helper()
	if !bytes.Equal(b, before) || !bytes.Equal(b[:cap(b)][len(b):len(b)+40], bytes.Repeat([]byte{0x77}, 40)) {
		t.Fatalf("%s: what was handed in has changed", what)
	}
}

// wipe writes over a list and its spare room.
func wipe[T any](list []T, with T) {
	list = list[:cap(list)]
	for i := range list {
		list[i] = with
	}
}

// P2101, P2102: a body that is handed in is neither changed nor kept.
func TestBodyIsNotKept(t *testing.T) {
	chance := rand.New(rand.NewSource(2121))
	for range 300 {
		all := someRecords(chance)
		j := journal.New()
		for _, r := range all {
			body := roomy(r.Body)
			if e := j.Append(api.Record{Kind: r.Kind, Body: body}); e != api.OK {
				t.Fatalf("Append: %d", e)
			}
			wantUntouched(t, "Append", body, r.Body)
			wipe(body, 0xee)
		}
		wantHeld(t, j, all)
	}
}

// P2103, P2106: bytes that are handed in are neither changed nor kept, also where what is appended would lie over those that do not count.
func TestOpenedBytesAreNotKept(t *testing.T) {
	chance := rand.New(rand.NewSource(2122))
	for range 1000 {
		b, _ := plainBytes(someRecords(chance))
		if chance.Intn(2) == 0 {
			b = spoilt(chance, b)
		}
		b = b[:chance.Intn(len(b)+1)]
		given := roomy(b)
		j, count, e := journal.Open(given)
		wantUntouched(t, "Open", given, b)
		if e != api.OK {
			continue
		}
		records, _, _ := plainOpen(b)
		wantGoesOn(t, j, records, b[:count])
		wantUntouched(t, "Append", given, b)
		j, _, _ = journal.Open(given)
		wipe(given, 0xee)
		wantHeld(t, j, records)
		wantGoesOn(t, j, records, b[:count])
	}
}

// P2101: what is told is new memory, each time.
func TestNewMemory(t *testing.T) {
	chance := rand.New(rand.NewSource(2123))
	for range 300 {
		all := someRecords(chance)
		b, _ := plainBytes(all)
		given := roomy(b)
		opened, _, _ := journal.Open(given)
		for _, j := range []*journal.Journal{filled(t, all...), opened} {
			wantApart(t, slices.Concat(told(j), told(j), []room{roomOf(given)}))
			wipeTold(j)
			wantHeld(t, j, all)
			wantGoesOn(t, j, all, b)
		}
		wantUntouched(t, "all calls", given, b)
	}
}

// wipeTold writes over all lists that a journal tells.
func wipeTold(j *journal.Journal) {
	for i := range j.Count() {
		r, _ := j.Record(i)
		wipe(r.Body, 0xee)
	}
	wipe(j.Bytes(), 0xee)
	wipe(j.Ends(), -1)
}

// P2101: what was told stays as it is while the journal goes on.
func TestToldStays(t *testing.T) {
	j := filled(t, record(1, "one"), record(2, "two"))
	b, ends := j.Bytes(), j.Ends()
	r, _ := j.Record(1)
	wantBytes, wantEnds := plainBytes([]api.Record{record(1, "one"), record(2, "two")})
	for range 200 {
		j.Append(record(3, "three"))
	}
	if !bytes.Equal(b, wantBytes) || !slices.Equal(ends, wantEnds) || string(r.Body) != "two" {
		t.Error("what was told has changed")
	}
}
