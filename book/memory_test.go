package book_test

import (
	"bytes"
	"cmp"
	"math"
	"math/rand"
	"reflect"
	"slices"
	"strings"
	"sync"
	"testing"
	"unsafe"

	"payoff/api"
	"payoff/book"
)

// room is the memory of a list, its spare room included.
type room struct{ from, to uintptr }

func roomOf[T any](list []T) room {
	v := reflect.ValueOf(list)
	return room{v.Pointer(), v.Pointer() + uintptr(v.Cap())*v.Type().Elem().Size()}
}

// wantApart: no two lists share memory.
func wantApart(t *testing.T, all []room) {
	t.Helper()
	all = slices.DeleteFunc(all, func(r room) bool { return r.from == r.to })
	slices.SortFunc(all, func(a, b room) int { return cmp.Compare(a.from, b.from) })
	for i := range all[min(1, len(all)):] {
		if all[i].to > all[i+1].from {
			t.Fatal("two lists share memory")
		}
	}
}

// spare gives a list spare room, with something in it.
func spare[T any](list []T, mark T) []T {
	return append(append(make([]T, 0, len(list)+2), list...), mark, mark)[:len(list)]
}

// wantUntouched: a list that was made by spare is as it was, its spare room too.
func wantUntouched[T comparable](t *testing.T, list, before []T, mark T) {
	t.Helper()
	if !slices.Equal(list[:len(list)+2], append(slices.Clip(before), mark, mark)) {
		t.Fatal("what was handed in has changed")
	}
}

// wipe writes over a list and its spare room.
func wipe[T any](list []T, with T) {
	list = list[:cap(list)]
	for i := range list {
		list[i] = with
	}
}

const markByte = 0x77

var (
	markPair  = api.Pair{Name: "MARK", V: 77}
	markEntry = api.Entry{Day: -7, Name: "mark"}
)

// P2213: images, pairs and journals that are handed in stay as they are, and are not kept.
func TestNothingHandedInIsKept(t *testing.T) {
	t.Parallel()
	chance := rand.New(rand.NewSource(2221))
	for range 150 {
		b := newBoth(t)
		for range chance.Intn(25) {
			name, img, known := someName(chance), someImage(chance), someKnown(chance)
			switch chance.Intn(6) {
			case 0, 1:
				given := spare(img, markByte)
				b.got.Add(name, given)
				b.want.add(name, img)
				wantUntouched(t, given, img, markByte)
				wipe(given, 0xee)
			case 2:
				all := b.got.Journal()
				given := spare(all, markByte)
				b.got = wantOpened(t, given, len(given))
				wantUntouched(t, given, all, markByte)
				wipe(given, 0xee)
			case 3:
				b.compact()
			default:
				given := spare(known, markPair)
				b.got.Day(given)
				b.want.day(known)
				wantUntouched(t, given, known, markPair)
				wipe(given, markPair)
			}
		}
		hold(t, b.got, b.want)
		// Nor is what stands behind the records that count written over by those that are journalled.
		all := b.got.Journal()
		cut := slices.Concat(all, record(3, "").Body, []byte("no record"))
		given := spare(cut, markByte)
		opened := wantOpened(t, given, len(all))
		for range 3 {
			opened.Day(someKnown(chance))
		}
		wantUntouched(t, given, cut, markByte)
	}
}

// P2213: what is answered is new memory, each time, and may be written over.
func TestNewMemory(t *testing.T) {
	t.Parallel()
	chance := rand.New(rand.NewSource(2222))
	lists := 0
	for range 150 {
		b := newBoth(t)
		var all []room
		for range chance.Intn(25) {
			b.some(chance, tally[api.Errno]{})
			known := someKnown(chance)
			entries, e := b.got.Day(known)
			want, wantE := b.want.day(known)
			if e != wantE || !slices.Equal(entries, want) {
				t.Fatalf("Day = %v, %d", entries, e)
			}
			all = append(all, roomOf(entries))
			for range 2 {
				all = append(all, answers(b.got)...)
			}
			wantApart(t, all)
			wipe(entries, markEntry)
			wipeAnswers(b.got)
			lists += len(all)
			all = nil
		}
		hold(t, b.got, b.want)
	}
	if lists < 5000 {
		t.Errorf("%d lists alone", lists)
	}
}

// answers: the memory of all lists that a book tells.
func answers(b *book.Book) []room {
	all := []room{roomOf(b.Positions()), roomOf(b.Ledger()), roomOf(b.Journal())}
	for _, p := range b.Positions() {
		totals, _, _ := b.Balance(p.Name)
		all = append(all, roomOf(totals))
	}
	return all
}

// wipeAnswers writes over all lists that a book tells.
func wipeAnswers(b *book.Book) {
	for _, p := range b.Positions() {
		totals, _, _ := b.Balance(p.Name)
		wipe(totals, api.Total{Cur: "NO", Amount: 7})
	}
	wipe(b.Positions(), api.Position{Name: "no"})
	wipe(b.Ledger(), markEntry)
	wipe(b.Journal(), 0xee)
}

// P2213: a name's bytes are not kept either: it may be a piece of a long text.
func TestNamesAreNotKept(t *testing.T) {
	long := strings.Repeat("name ", 1000)
	b := book.New()
	add(t, b, long[:4], longLived(3))
	entries, e := b.Day(pairs("S", 4))
	if e != api.OK || len(entries) != 1 {
		t.Fatalf("Day = %v, %d", entries, e)
	}
	for _, kept := range []string{b.Positions()[0].Name, entries[0].Name, b.Ledger()[0].Name} {
		if unsafe.StringData(kept) == unsafe.StringData(long) {
			t.Error("the name that was handed in is kept")
		}
	}
}

// P2205, P2206, P2213: what was told stays as it is while the book goes on.
func TestToldStays(t *testing.T) {
	b := book.New()
	add(t, b, "a", longLived(9))
	entries, _ := b.Day(pairs("S", 4))
	told, all := tellings(b), b.Journal()
	totals, _, _ := b.Balance("a")
	for range 9 {
		b.Day(pairs("S", 5))
	}
	drop(t, b, "a")
	b.Compact()
	want := api.Entry{Name: "a", Cur: "EUR", Amount: 4}
	if !slices.Equal(entries, []api.Entry{want}) || !slices.Equal(told.ledger, []api.Entry{want}) || !slices.Equal(told.positions, []api.Position{{Name: "a"}}) || !slices.Equal(totals, []api.Total{{Cur: "EUR", Amount: 4}}) || !bytes.Equal(told.journal, all) {
		t.Error("what was told has changed")
	}
}

// P2213: books know nothing of each other, also those of one journal, side by side.
func TestBooksKnowNothingOfEachOther(t *testing.T) {
	chance := rand.New(rand.NewSource(2223))
	first := book.New()
	add(t, first, "a", summing(9))
	wantDay(t, first, pairs("S", 1))
	wantErrno(t, "Compact", first.Compact(), api.OK)
	all, img := first.Journal(), made(t, steady(chance))
	var group sync.WaitGroup
	for n := range 8 {
		group.Go(func() {
			b, _, e := book.Open(all)
			if e != api.OK {
				t.Errorf("Open: %d", e)
				return
			}
			for day := range 9 {
				b.Add(string(rune('b'+day)), img)
				b.Day(pairs("S", n, "A", day))
				if day == 4 {
					b.Compact()
				}
			}
			// On the first of these days it has added the 1 of the day ahead, then eight times n.
			if totals, _, e := b.Balance("a"); e != api.OK || !slices.Equal(totals, []api.Total{{Cur: "EUR", Amount: 2 + 7*n}}) {
				t.Errorf("book %d: %v, %d", n, totals, e)
			}
		})
	}
	group.Wait()
	wantTellings(t, first, telling{today: 1, positions: []api.Position{{Name: "a"}}, journal: all})
	wantTellings(t, book.New(), telling{journal: []byte("PAYJRNL1")})
}

// P2213: whatever is handed in, no call panics, and an answer comes.
func TestAnything(t *testing.T) {
	chance := rand.New(rand.NewSource(2224))
	b := book.New()
	for range 3000 {
		junk := make([]byte, chance.Intn(60))
		chance.Read(junk)
		b.Add(string(junk[:chance.Intn(len(junk)+1)]), junk)
		b.Drop(string(junk))
		b.Day([]api.Pair{{Name: string(junk), V: math.MinInt}, {Name: string(junk[:len(junk)/2])}})
		b.Balance(string(junk))
		holdOpen(t, junk)
		holdOpen(t, append([]byte("PAYJRNL1"), junk...))
		holdOpen(t, journalOf(api.Record{Kind: 1 + chance.Intn(8), Body: junk}))
		holdOpen(t, journalOf(record(4, "\x00\x01\x00"), api.Record{Kind: 5, Body: junk}, record(7, "")))
	}
	wantPositions(t, b)
	wantLedger(t, b)
}
