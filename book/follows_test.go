package book_test

import (
	"math/rand"
	"slices"
	"testing"

	"payoff/api"
	"payoff/book"
	"payoff/image"
	"payoff/journal"
	"payoff/machine"
)

// P2210, P11: a position's entries are the flows of a whole run of its program over the rows of the days since it was taken in.
func TestEntriesAreTheRunsFlows(t *testing.T) {
	t.Parallel()
	chance := rand.New(rand.NewSource(2211))
	entries, cut := 0, 0
	for range 500 {
		b := book.New()
		programs, since, gone := map[string]api.Program{}, map[string]int{}, map[string]int{}
		var told [][]api.Pair
		for range chance.Intn(30) {
			name, img := someName(chance), someImage(chance)
			switch chance.Intn(7) {
			case 0, 1:
				if b.Add(name, img) == api.OK {
					programs[name], _, _ = image.Decode(img)
					since[name] = len(told)
				}
			case 2:
				if list := b.Positions(); len(list) > 0 {
					name = pick(chance, list...).Name
					drop(t, b, name)
					gone[name] = len(told)
				}
			case 3:
				b.Compact()
				b = wantOpened(t, b.Journal(), len(b.Journal()))
			default:
				known := someKnown(chance)
				if _, e := b.Day(known); e == api.OK {
					told = append(told, known)
				}
			}
		}
		for name, p := range programs {
			last, dropped := gone[name]
			if !dropped {
				last = len(told)
			}
			got := ofName(b.Ledger(), name)
			want := ranUpTo(p, name, since[name], told[:last])
			if !slices.Equal(got, want) {
				t.Fatalf("%s: %v, want %v", name, got, want)
			}
			entries += len(got)
			if dropped && len(ranUpTo(p, name, since[name], told)) > len(got) {
				cut++
			}
		}
	}
	if entries < 3000 || cut < 60 {
		t.Errorf("%d entries, %d positions that would have gone on", entries, cut)
	}
}

func ofName(entries []api.Entry, name string) []api.Entry {
	return slices.DeleteFunc(entries, func(entry api.Entry) bool { return entry.Name != name })
}

// ranUpTo: the flows of a run as entries, up to the last day that was told.
func ranUpTo(p api.Program, name string, since int, told [][]api.Pair) []api.Entry {
	var rows [][]api.Cell
	for _, known := range told[min(since, len(told)):] {
		var row []api.Cell
		for _, observable := range p.Names {
			at := slices.IndexFunc(known, func(pair api.Pair) bool { return pair.Name == observable })
			if at < 0 {
				row = append(row, api.Cell{})
			} else {
				row = append(row, api.Cell{Has: true, V: known[at].V})
			}
		}
		rows = append(rows, row)
	}
	out, _ := machine.Run(p, rows)
	var list []api.Entry
	for _, f := range out.Flows {
		if f.Day < len(rows) {
			list = append(list, api.Entry{Day: since + f.Day, Name: name, Cur: f.Cur, Amount: f.Amount})
		}
	}
	return list
}

// moment: what a book told behind a record.
type moment struct {
	end  int
	at   telling
	sums map[string][]api.Total
}

func momentOf(b *book.Book) moment {
	m := moment{end: len(b.Journal()), at: tellings(b), sums: map[string][]api.Total{}}
	for _, entry := range m.at.ledger {
		m.sums[entry.Name], _, _ = b.Balance(entry.Name)
	}
	return m
}

func (m moment) want(t *testing.T, b *book.Book) {
	t.Helper()
	wantTellings(t, b, m.at)
	for name, sums := range m.sums {
		if got, _, e := b.Balance(name); e != api.OK || !slices.Equal(got, sums) {
			t.Fatalf("Balance(%q) = %v, %d, want %v", name, got, e, sums)
		}
	}
}

// P2211, P11: a journal that is cut at any byte opens as the book was behind the last call whose record is whole.
func TestCutAnywhere(t *testing.T) {
	t.Parallel()
	chance := rand.New(rand.NewSource(2212))
	for turn := range 60 {
		b := book.New()
		empty := momentOf(b)
		moments := []moment{empty}
		for range 14 {
			before := len(b.Journal())
			switch chance.Intn(5) {
			case 0, 1:
				b.Add(someName(chance), someImage(chance))
			case 2:
				b.Drop(someName(chance))
			default:
				b.Day(someKnown(chance))
			}
			if len(b.Journal()) > before {
				moments = append(moments, momentOf(b))
			}
			if turn%2 == 1 && chance.Intn(14) == 0 {
				wantErrno(t, "Compact", b.Compact(), api.OK)
				moments = []moment{momentOf(b)}
			}
		}
		all := b.Journal()
		for cut := 8; cut <= len(all); cut++ {
			want := empty
			for _, m := range moments {
				if m.end <= cut {
					want = m
				}
			}
			opened, size, e := book.Open(all[:cut])
			if e != api.OK || size != want.end {
				t.Fatalf("Open of %d of %d bytes = %d, %d, want %d", cut, len(all), size, e, want.end)
			}
			want.want(t, opened)
		}
		for cut := range 8 {
			empty.want(t, wantOpened(t, all[:cut], 0))
		}
	}
}

// further lets the same happen to two books, which must answer alike.
func further(t *testing.T, chance *rand.Rand, one, two *book.Book, steps int) {
	t.Helper()
	for range steps {
		name, img, known := someName(chance), someImage(chance), someKnown(chance)
		switch chance.Intn(6) {
		case 0:
			wantErrno(t, "Add", one.Add(name, img), two.Add(name, img))
		case 1:
			wantErrno(t, "Drop", one.Drop(name), two.Drop(name))
		default:
			entries, e := one.Day(known)
			again, f := two.Day(known)
			if e != f || !slices.Equal(entries, again) {
				t.Fatalf("Day = %v, %d and %v, %d", entries, e, again, f)
			}
		}
		wantAlike(t, one, two)
	}
}

// wantAlike: two books tell the same, but for their journals.
func wantAlike(t *testing.T, one, two *book.Book) {
	t.Helper()
	want := momentOf(one)
	want.at.journal = two.Journal()
	want.want(t, two)
}

// call does the call that has journalled a record.
func call(b *book.Book, r api.Record) {
	s := &scan{left: r.Body}
	switch r.Kind {
	case 1:
		name, img := s.text(), s.text()
		b.Add(name, []byte(img))
	case 2:
		b.Drop(s.text())
	case 3:
		var known []api.Pair
		for range s.uint() {
			name := s.text()
			known = append(known, api.Pair{Name: name, V: s.int()})
		}
		b.Day(known)
	}
}

// P2211: a book that was opened from a journal's beginning goes on as the one that was there.
func TestGoesOnBehindACrash(t *testing.T) {
	t.Parallel()
	chance := rand.New(rand.NewSource(2213))
	for range 200 {
		there := book.New()
		further(t, chance, there, book.New(), chance.Intn(20))
		all := there.Journal()
		j, _, _ := journal.Open(all)
		ends := append([]int{8}, j.Ends()...)
		count := chance.Intn(len(ends))
		there = book.New()
		for _, r := range recordsOf(j)[:count] {
			call(there, r)
		}
		cut := ends[count]
		if count < j.Count() {
			cut += chance.Intn(ends[count+1] - cut)
		}
		opened := wantOpened(t, all[:cut], ends[count])
		wantTellings(t, opened, tellings(there))
		further(t, chance, there, opened, 10)
		wantTellings(t, opened, tellings(there))
	}
}

// P2212: a compacted book, and one that was opened from what was compacted, go on as one that was not.
func TestCompacted(t *testing.T) {
	t.Parallel()
	chance := rand.New(rand.NewSource(2214))
	for range 300 {
		b := someBook(t, chance, 20)
		all := b.got.Journal()
		plain := wantOpened(t, all, len(all))
		short := wantOpened(t, all, len(all))
		for range 3 {
			wantErrno(t, "Compact", short.Compact(), api.OK)
			wantAlike(t, plain, short)
			once := short.Journal()
			wantErrno(t, "Compact", short.Compact(), api.OK)
			if !slices.Equal(short.Journal(), once) {
				t.Fatal("Compact once more gives other bytes")
			}
			opened := wantOpened(t, once, len(once))
			wantTellings(t, opened, tellings(short))
			wantErrno(t, "Compact", opened.Compact(), api.OK)
			wantTellings(t, opened, tellings(short))
			if chance.Intn(2) == 0 {
				short = opened
			}
			further(t, chance, plain, short, chance.Intn(8))
			// What the calls behind it journalled stands behind the group.
			wantTellings(t, wantOpened(t, short.Journal(), len(short.Journal())), tellings(short))
		}
	}
}
