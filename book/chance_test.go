package book_test

import (
	"bytes"
	"math"
	"math/rand"
	"slices"
	"testing"

	"payoff/api"
	"payoff/book"
	"payoff/image"
	"payoff/journal"
	"payoff/sample"
)

func pick[T any](chance *rand.Rand, list ...T) T { return list[chance.Intn(len(list))] }

// steady: a good program by chance that flows on each of its days, adds up S, and looks back at A.
func steady(chance *rand.Rand) api.Program {
	p := api.Program{Names: []string{"A", "S"}, Curs: []string{"EUR", "USD"}, Horizon: chance.Intn(9), Cells: 1, Slots: 1, Stack: 2}
	for d := range p.Horizon + 1 {
		p.Days = append(p.Days, day(d,
			instr(api.OpObs, 0, min(d, chance.Intn(4))), instr(api.OpFlow, 0), instr(api.OpLoad), instr(api.OpObs, 1), instr(api.OpAdd),
			instr(api.OpKeep), instr(api.OpStore), instr(api.OpGet), instr(api.OpFlow, 1)))
	}
	return p
}

// someImage: one that is taken, most of the time.
func someImage(chance *rand.Rand) []byte {
	p := steady(chance)
	switch chance.Intn(9) {
	case 0:
		p = api.Program{Horizon: chance.Intn(5)}
	case 1, 2:
		p = sample.Sound(chance.Intn)
	case 3:
		p = sample.Program(chance.Intn)
	}
	b, _ := image.Encode(p)
	if chance.Intn(12) == 0 {
		b[chance.Intn(len(b))] ^= 1 << chance.Intn(8)
	}
	if chance.Intn(20) == 0 {
		b = b[:chance.Intn(len(b))]
	}
	return b
}

func someName(chance *rand.Rand) string {
	if chance.Intn(12) == 0 {
		return pick(chance, "", "A", "deal", "a b", "é")
	}
	return string([]byte{'a' + byte(chance.Intn(6)), '0' + byte(chance.Intn(4))})
}

// someKnown: a day's pairs, most of the time all that programs look at.
func someKnown(chance *rand.Rand) []api.Pair {
	var known []api.Pair
	for _, name := range []string{"A", "B_1", "S", "Z9", "OTHER"} {
		if chance.Intn(25) > 0 {
			known = append(known, api.Pair{Name: name, V: chance.Intn(19) - 9})
		}
	}
	chance.Shuffle(len(known), func(i, k int) { known[i], known[k] = known[k], known[i] })
	if chance.Intn(40) == 0 {
		known = append(known, api.Pair{Name: pick(chance, "A", "a", "", "A ")})
	}
	if chance.Intn(40) == 0 && len(known) > 0 {
		known[0].V = pick(chance, math.MaxInt, math.MinInt, 1<<62)
	}
	return known
}

// both: a book and the plain one, to which the same happens.
type both struct {
	t    *testing.T
	got  *book.Book
	want *plainBook
}

func newBoth(t *testing.T) *both { return &both{t, book.New(), plainNew()} }

func (b *both) add(name string, image []byte) api.Errno {
	b.t.Helper()
	got, want := b.got.Add(name, image), b.want.add(name, image)
	wantErrno(b.t, "Add "+name, got, want)
	return got
}

func (b *both) drop(name string) api.Errno {
	b.t.Helper()
	got, want := b.got.Drop(name), b.want.drop(name)
	wantErrno(b.t, "Drop "+name, got, want)
	return got
}

func (b *both) day(known []api.Pair) api.Errno {
	b.t.Helper()
	got, e := b.got.Day(known)
	want, wantE := b.want.day(known)
	if e != wantE || !slices.Equal(got, want) {
		b.t.Fatalf("Day(%v) = %v, %d, want %v, %d", known, got, e, want, wantE)
	}
	return e
}

func (b *both) compact() {
	b.t.Helper()
	wantErrno(b.t, "Compact", b.got.Compact(), b.want.compact())
}

// reopen goes on with the book that the journal tells.
func (b *both) reopen() {
	b.t.Helper()
	all := b.got.Journal()
	b.got = wantOpened(b.t, all, len(all))
}

// tally counts what came.
type tally[T comparable] map[T]int

func (n tally[T]) want(t *testing.T, count int, wanted ...T) {
	t.Helper()
	for _, x := range wanted {
		if n[x] < count {
			t.Errorf("%v came %d times", x, n[x])
		}
	}
}

// some lets something happen by chance.
func (b *both) some(chance *rand.Rand, errors tally[api.Errno]) {
	b.t.Helper()
	switch kind := chance.Intn(20); {
	case kind < 6:
		errors[b.add(someName(chance), someImage(chance))]++
	case kind < 8:
		errors[b.drop(someName(chance))]++
	case kind < 18:
		errors[b.day(someKnown(chance))]++
	case kind < 19:
		b.compact()
	default:
		b.reopen()
	}
}

// P2201 to P2208: whatever happens, by chance.
func TestByChance(t *testing.T) {
	t.Parallel()
	chance := rand.New(rand.NewSource(2201))
	errors, states, faults := tally[api.Errno]{}, tally[int]{}, tally[api.Fault]{}
	for range 500 {
		b := newBoth(t)
		for range chance.Intn(40) {
			b.some(chance, errors)
			hold(t, b.got, b.want)
		}
		for _, p := range b.got.Positions() {
			states[p.State]++
			faults[p.Fault]++
		}
	}
	errors.want(t, 20, api.OK, api.ErrArg, api.ErrKnown, api.ErrUnknown, api.ErrName, api.ErrSum, api.ErrShort, api.ErrStack)
	states.want(t, 100, api.Running, api.Ended, api.Faulted)
	faults.want(t, 20, api.Overflow, api.DivZero, api.NoObs)
}

// someBook: a book to which something has happened.
func someBook(t *testing.T, chance *rand.Rand, most int) *both {
	t.Helper()
	b := newBoth(t)
	for range chance.Intn(most + 1) {
		b.some(chance, tally[api.Errno]{})
	}
	return b
}

// spoilt: records, with something changed.
func spoilt(chance *rand.Rand, records []api.Record) []api.Record {
	records = slices.Clone(records)
	if len(records) == 0 {
		return []api.Record{record(1+chance.Intn(9), string(make([]byte, chance.Intn(4))))}
	}
	at := chance.Intn(len(records))
	body := bytes.Clone(records[at].Body)
	place := chance.Intn(len(body) + 1)
	switch chance.Intn(8) {
	case 0:
		records[at].Kind = 1 + chance.Intn(9)
	case 1:
		return slices.Delete(records, at, at+1)
	case 2:
		return slices.Insert(records, chance.Intn(len(records)), records[at])
	case 3:
		other := chance.Intn(len(records))
		records[at], records[other] = records[other], records[at]
	case 4:
		records[at].Body = append(body, byte(chance.Intn(3)))
	case 5:
		records[at].Body = body[:place]
	case 6:
		records[at].Body = slices.Insert(body, place, byte(chance.Intn(256)))
	case 7:
		if place < len(body) {
			body[place] = pick(chance, 0, 1, 2, body[place]+1, body[place]^128, byte(chance.Intn(256)))
		}
		records[at].Body = body
	}
	return records
}

// P2208, P2209: journals in which some record is changed.
func TestSpoiltRecords(t *testing.T) {
	t.Parallel()
	chance := rand.New(rand.NewSource(2202))
	counted, groups := tally[int]{}, tally[int]{}
	for range 3000 {
		b := someBook(t, chance, 14)
		if chance.Intn(2) == 0 {
			b.compact()
		}
		for range chance.Intn(4) {
			b.some(chance, tally[api.Errno]{})
		}
		j, _, _ := journal.Open(b.got.Journal())
		records := spoilt(chance, recordsOf(j))
		opened, _ := holdOpen(t, journalOf(records...))
		found, _, _ := journal.Open(opened.Journal())
		if len(records) > 0 && records[0].Kind == 4 {
			groups[min(1, found.Count())]++
		} else {
			counted[min(3, len(records)-found.Count())]++
		}
	}
	counted.want(t, 100, 0, 1, 2, 3)
	groups.want(t, 200, 0, 1)
}

// odd: a number that may fit by chance.
func odd(chance *rand.Rand, around int) int {
	return pick(chance, around-1, around+1, 0, 1, 2, 3, 5, chance.Intn(12), 1<<20, 1<<30, math.MaxInt, -1)
}

// spoiltGroup: the example's group, with something changed.
func spoiltGroup(t *testing.T, chance *rand.Rand) grouped {
	g := exampleGroup(t)
	w := &g.list[chance.Intn(len(g.list))]
	l := &g.lines[0][chance.Intn(len(g.lines[0]))]
	for range 1 + chance.Intn(3) {
		field := pick(chance, &g.today, &g.positions, &g.entries, &w.since, &w.state, &w.fault, &w.on, &w.dropped, &l.on, &l.number, &l.amount, &g.counts, &w.since, &w.on, &w.fault, &l.on, &l.number)
		*field = odd(chance, *field)
		switch chance.Intn(12) {
		case 0:
			w.name = someName(chance)
		case 1:
			w.img, w.saved = running(t, longLived(9), chance.Intn(6))
		case 2:
			w.img, w.saved = "", ""
		case 3:
			l.cur = pick(chance, "CHF", "USD", "EU", "eur", "EURO", "")
		case 4:
			g.lines[0] = g.lines[0][:chance.Intn(5)]
			g.entries = len(g.lines[0])
		case 5:
			chance.Shuffle(len(g.list), func(i, k int) { g.list[i], g.list[k] = g.list[k], g.list[i] })
		}
		if len(g.lines[0]) == 0 {
			return g
		}
	}
	return g
}

// P2209: groups in which some numbers and texts are changed.
func TestSpoiltGroups(t *testing.T) {
	t.Parallel()
	chance := rand.New(rand.NewSource(2203))
	sizes := tally[bool]{}
	for range 12000 {
		all := journalOf(spoiltGroup(t, chance).records()...)
		opened, _ := holdOpen(t, all)
		sizes[len(opened.Journal()) == len(all)]++
	}
	sizes.want(t, 1000, true, false)
}

// P2208: bytes changed somewhere in a journal, whose records' checksums tell it.
func TestSpoiltBytes(t *testing.T) {
	t.Parallel()
	chance := rand.New(rand.NewSource(2204))
	for range 2000 {
		all := someBook(t, chance, 14).got.Journal()
		all[chance.Intn(len(all))] ^= 1 << chance.Intn(8)
		holdOpen(t, all)
		holdOpen(t, all[:chance.Intn(len(all))])
	}
}

// P2208, P2213: whatever the bytes are.
func FuzzOpen(f *testing.F) {
	f.Add([]byte("PAYJ"))
	f.Add([]byte("PAYJRNL2"))
	f.Add(journalOf(record(3, "\x00"), record(1, text("a")+text(string(made(f, exampleP())))), record(3, "\x01\x01S\x02"), record(2, "\x01a")))
	f.Add(journalOf(exampleGroup(f).records()...))
	f.Fuzz(func(t *testing.T, b []byte) { holdOpen(t, b) })
}
