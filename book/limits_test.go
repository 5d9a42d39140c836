package book_test

import (
	"fmt"
	"math"
	"slices"
	"strings"
	"sync"
	"testing"

	"payoff/api"
	"payoff/book"
	"payoff/machine"
	"payoff/save"
)

func names(prefix string, count int) []string {
	var list []string
	for n := range count {
		list = append(list, fmt.Sprintf("%s%03d", prefix, n))
	}
	return list
}

// wantFullBook: no position can be taken in; other reasons come first where the promise says so.
func wantFullBook(t *testing.T, b *book.Book, taken string) {
	t.Helper()
	wantNotAdded(t, b, "further", made(t, exampleQ()), api.ErrFull)
	wantNotAdded(t, b, "further", nil, api.ErrFull)
	wantNotAdded(t, b, "Further", nil, api.ErrArg)
	wantNotAdded(t, b, taken, nil, api.ErrKnown)
}

// P2202, P2209: as many positions as may go on.
func TestMaxBook(t *testing.T) {
	t.Parallel()
	b := book.New()
	for _, name := range names("n", 254) {
		add(t, b, name, longLived(50))
	}
	add(t, b, "ends", exampleQ())
	add(t, b, "other", exampleQ())
	wantFullBook(t, b, "ends")
	wantFullBook(t, wantOpened(t, b.Journal(), len(b.Journal())), "ends")
	b.Day(pairs("S", 1))
	for _, name := range []string{"one", "two"} {
		add(t, b, name, longLived(50))
	}
	wantFullBook(t, b, "ends")
	drop(t, b, "ends") // It went on no more.
	wantFullBook(t, b, "ends")
	drop(t, b, "n007")
	add(t, b, "three", longLived(50))
	wantFullBook(t, b, "n007")
	// As many as may go on are in a group, with others behind them; one more may not be.
	wantErrno(t, "Compact", b.Compact(), api.OK)
	opened := wantOpened(t, b.Journal(), len(b.Journal()))
	wantTellings(t, opened, tellings(b))
	wantFullBook(t, opened, "n007")
	g := grouped{today: 5, positions: 258}
	img, saved := running(t, longLived(50), 5)
	for _, name := range names("m", 256) {
		g.list = append(g.list, written{name: name, img: img, saved: saved})
	}
	g.list = append(g.list, written{name: "ends", state: 1, on: 3}, written{name: "gone", dropped: 1})
	all := journalOf(g.records()...)
	wantFullBook(t, wantOpened(t, all, len(all)), "gone")
	for _, at := range []int{0, 256, 257, 258} {
		more := g
		more.positions++
		more.list = slices.Insert(slices.Clone(g.list), at, written{name: "further", img: img, saved: saved})
		wantTellings(t, wantOpened(t, journalOf(more.records()...), 8), tellings(book.New()))
	}
	// A fault makes room as well.
	b.Day(nil)
	for _, name := range names("o", 256) {
		add(t, b, name, exampleP())
	}
	wantFullBook(t, b, "o255")
}

// flowing lets -1 flow so many times on its first day.
func flowing(count int) api.Program {
	var code []api.Instr
	for range count {
		code = append(code, instr(api.OpConst), instr(api.OpFlow))
	}
	return api.Program{Curs: []string{"EUR"}, Pool: []int{-1}, Stack: 1, Days: []api.Segment{day(0, code...)}}
}

// summing adds S up on each day, and lets the sum flow on its last one alone.
func summing(horizon int) api.Program {
	p := api.Program{Names: []string{"S"}, Curs: []string{"EUR"}, Horizon: horizon, Cells: 1, Stack: 2}
	for d := range horizon + 1 {
		p.Days = append(p.Days, day(d, instr(api.OpObs, 0, min(d, 1)), instr(api.OpLoad), instr(api.OpAdd), instr(api.OpStore)))
	}
	p.Days[horizon] = day(horizon, instr(api.OpLoad), instr(api.OpFlow))
	return p
}

// asking lets 7 flow on its first day if X is above 0; then 7 / X.
func asking() api.Program {
	return api.Program{Names: []string{"X"}, Curs: []string{"EUR"}, Pool: []int{0, 7}, Stack: 2, Days: []api.Segment{day(0,
		instr(api.OpObs), instr(api.OpConst, 0), instr(api.OpGt), instr(api.OpZero, 2), instr(api.OpConst, 1), instr(api.OpFlow),
		instr(api.OpConst, 1), instr(api.OpObs), instr(api.OpDiv), instr(api.OpDrop))}}
}

// almostFull: a book with room for so many entries, on day 3, in which a position that sums up goes on.
func almostFull(t *testing.T, room int) *book.Book {
	t.Helper()
	b := book.New()
	wantDay(t, b, nil)
	add(t, b, "sums", summing(9))
	wantDay(t, b, pairs("S", 1000))
	const most = 131071 // The code has no room for more flows.
	for n := range 7 {
		add(t, b, fmt.Sprint("f", n), flowing(most))
	}
	add(t, b, "last", flowing(1<<20-7*most-room))
	entries, e := b.Day(pairs("S", 100))
	if e != api.OK || len(entries) != 1<<20-room || len(b.Ledger()) != 1<<20-room {
		t.Fatalf("Day: %d entries, %d", len(entries), e)
	}
	return b
}

// P2204: as many entries as a ledger may have.
func TestMaxLedger(t *testing.T) {
	t.Parallel()
	const room = 130000
	b := almostFull(t, room)
	add(t, b, "more", flowing(room+1))
	wantNoDay(t, b, pairs("S", 50), api.ErrFull)
	wantNoDay(t, b, pairs("s", 50), api.ErrName)
	drop(t, b, "more")
	add(t, b, "some", flowing(room-1))
	add(t, b, "asks", asking())
	add(t, b, "too", flowing(1))
	wantNoDay(t, b, pairs("S", 50, "X", 7), api.ErrFull)
	drop(t, b, "too")
	full := wantOpened(t, b.Journal(), len(b.Journal()))
	// Just full, with a flow of the one that asks; or one less.
	entries, e := full.Day(pairs("S", 10, "X", 7))
	if e != api.OK || len(entries) != room || entries[room-1] != (api.Entry{Day: 3, Name: "asks", Cur: "EUR", Amount: 7}) {
		t.Fatalf("Day: %d entries, %d", len(entries), e)
	}
	entries, e = b.Day(pairs("S", 10, "X", -1))
	if e != api.OK || len(entries) != room-1 || entries[room-2] != (api.Entry{Day: 3, Name: "some", Cur: "EUR", Amount: -1}) {
		t.Fatalf("Day: %d entries, %d", len(entries), e)
	}
	holdFull(t, full)
	holdAlmost(t, b)
}

// holdFull: with a full ledger, what may flow but does not is run; a day on which something would flow is not.
func holdFull(t *testing.T, b *book.Book) {
	t.Helper()
	if len(b.Ledger()) != 1<<20 {
		t.Fatalf("%d entries", len(b.Ledger()))
	}
	add(t, b, "a", asking())
	add(t, b, "b", asking())
	wantNoDay(t, b, pairs("S", 50, "X", 1), api.ErrFull)
	wantDay(t, b, pairs("S", 1, "X", 0))
	add(t, b, "c", asking())
	wantDay(t, b, pairs("S", 1))
	add(t, b, "d", asking())
	wantDay(t, b, pairs("S", 1, "X", math.MinInt))
	want := []api.Position{{Name: "a", Since: 4, State: api.Faulted, Fault: api.DivZero, Day: 4}, {Name: "b", Since: 4, State: api.Faulted, Fault: api.DivZero, Day: 4}, {Name: "c", Since: 5, State: api.Faulted, Fault: api.NoObs, Day: 5}, {Name: "d", Since: 6, State: api.Ended, Day: 6}}
	if got := b.Positions(); !slices.Equal(got[len(got)-4:], want) {
		t.Errorf("Positions() = %+v, want %+v", got[len(got)-4:], want)
	}
	// A journal with a day for which there is no room is opened up to it.
	add(t, b, "e", asking())
	all := b.Journal()
	wantErrno(t, "Compact", b.Compact(), api.OK)
	for _, whole := range [][]byte{all, b.Journal()} {
		opened := wantOpened(t, whole, len(whole))
		before := tellings(opened)
		wantNoDay(t, opened, pairs("X", 1, "S", 1), api.ErrFull)
		longer := append(recordsIn(t, whole), record(3, "\x02\x01S\x02\x01X\x02"), record(3, "\x00"))
		wantTellings(t, wantOpened(t, journalOf(longer...), len(whole)), before)
	}
}

// holdAlmost: with room for one entry more, days that are refused leave no trace in the one that sums up, which has one.
func holdAlmost(t *testing.T, b *book.Book) {
	t.Helper()
	for b.Today() < 10 {
		name := fmt.Sprint("no", b.Today())
		add(t, b, name, flowing(2))
		for range 2 {
			wantNoDay(t, b, pairs("S", 50), api.ErrFull)
		}
		drop(t, b, name)
		wantDay(t, b, pairs("S", 1))
	}
	// On its first day it has seen that day, on each further one the day ahead.
	wantDay(t, b, nil, api.Entry{Day: 10, Name: "sums", Cur: "EUR", Amount: 1000 + 1000 + 100 + 10 + 5})
	if len(b.Ledger()) != 1<<20 {
		t.Errorf("%d entries", len(b.Ledger()))
	}
}

// P2209: a group of as many entries as a ledger may have, and of one more.
func TestGroupOfMaxLedger(t *testing.T) {
	t.Parallel()
	full := text("EUR") + number(5)
	record6 := func(count int) api.Record { return record(6, uints(count)+strings.Repeat("\x00\x00"+full, count)) }
	records := []api.Record{record(4, uints(1, 1, 1<<20)), record(5, "\x01a\x00\x00\x00\x00\x01\x00\x00")}
	for range 256 {
		records = append(records, record6(4096))
	}
	all := journalOf(append(slices.Clip(records), record(7, ""))...)
	b := wantOpened(t, all, len(all))
	if len(b.Ledger()) != 1<<20 {
		t.Errorf("%d entries", len(b.Ledger()))
	}
	wantBalance(t, b, "a", api.Total{Cur: "EUR", Amount: 5 << 20})
	wantErrno(t, "Compact", b.Compact(), api.OK)
	if string(b.Journal()) != string(all) {
		t.Error("Compact gives another group")
	}
	records[0] = record(4, uints(1, 1, 1<<20+1))
	longer := journalOf(append(slices.Clip(records), record6(1), record(7, ""))...)
	wantTellings(t, wantOpened(t, longer, 8), tellings(book.New()))
}

// P2204, P2208, P2209: the last day that a book may have.
func TestMaxDays(t *testing.T) {
	t.Parallel()
	const last = 1<<30 - 1
	img, saved := running(t, longLived(9), 3)
	g := grouped{today: last, positions: 2, entries: 1, list: []written{{name: "a", since: last - 3, img: img, saved: saved}, {name: "b", since: last - 1, state: 1, on: last - 1}}, lines: [][]line{{{last - 1, 1, "EUR", 4}}}}
	all := journalOf(g.records()...)
	b, plain := holdOpen(t, all)
	both := &both{t, b, plain}
	both.day(pairs("S", 6))
	both.add("c", made(t, longLived(9)))
	hold(t, b, plain)
	wantPositions(t, b, []api.Position{{Name: "a", Since: last - 3}, {Name: "b", Since: last - 1, State: api.Ended, Day: last - 1}, {Name: "c", Since: 1 << 30}}...)
	for range 2 {
		if b.Today() != 1<<30 {
			t.Fatalf("Today() = %d", b.Today())
		}
		wantNoDay(t, b, nil, api.ErrFull)
		wantNoDay(t, b, pairs("S", 6), api.ErrFull)
		wantNoDay(t, b, pairs("s", 6), api.ErrName)
		wantNoDay(t, b, longKnown(1<<22+1), api.ErrLong)
		// No day counts behind the last one.
		wantTellings(t, wantOpened(t, journalOf(append(recordsIn(t, b.Journal()), record(3, "\x00"))...), len(b.Journal())), tellings(b))
		both.compact()
		both.reopen()
		b = both.got
		hold(t, b, plain)
	}
	both.drop("c")
	hold(t, b, plain)
	wantLedger(t, b, api.Entry{Day: last - 1, Name: "b", Cur: "EUR", Amount: 4}, api.Entry{Day: last, Name: "a", Cur: "EUR", Amount: 6})
}

// longKnown: pairs, S the first of them, of which the body of a record has so many bytes (some more than 2^20).
func longKnown(size int) []api.Pair {
	const widest = 1 + 31 + 10 // the name's length, the name, the least number
	known := pairs("S", 1)
	put := func(first string, width int) {
		name := fmt.Sprintf("%s%07d", first, len(known))
		known = append(known, api.Pair{Name: name + strings.Repeat("_", width-11-len(name)), V: math.MinInt})
	}
	left := size - 3 - 3 // how many pairs there are, and the first of them
	for ; left >= 2*widest; left -= widest {
		put("N", widest)
	}
	put("X", left/2)
	put("Y", left-left/2)
	return known
}

// P2204, P2208: the longest body that a day may have.
func TestLongestDay(t *testing.T) {
	t.Parallel()
	known := longKnown(1 << 22)
	p := longLived(9)
	p.Names = []string{known[len(known)/2].Name, known[len(known)-1].Name}
	p.Days[0] = day(0, instr(api.OpObs, 0), instr(api.OpFlow), instr(api.OpObs, 1), instr(api.OpFlow))
	b := book.New()
	add(t, b, "a", p)
	longer := longKnown(1<<22 + 1)
	wantNoDay(t, b, longer, api.ErrLong)
	wantNoDay(t, b, append(longer, api.Pair{Name: "s"}), api.ErrName)
	wantNoDay(t, b, append(longer, longer[0]), api.ErrName)
	wantNoDay(t, b, append(known, api.Pair{Name: "Z"}), api.ErrLong)
	wantDay(t, b, known, api.Entry{Name: "a", Cur: "EUR", Amount: math.MinInt}, api.Entry{Name: "a", Cur: "EUR", Amount: math.MinInt})
	if records := recordsIn(t, b.Journal()); len(records) != 2 || len(records[1].Body) != 1<<22 || string(records[1].Body) != plainLong(known) {
		t.Error("the day is not in the journal as it is")
	}
	wantTellings(t, wantOpened(t, b.Journal(), len(b.Journal())), tellings(b))
}

// plainLong: as plainDay, for long lists.
func plainLong(known []api.Pair) string {
	var body strings.Builder
	body.WriteString(uints(len(known)))
	for _, pair := range known {
		body.WriteString(text(pair.Name) + number(pair.V))
	}
	return body.String()
}

// greatest lets the tests of the greatest journals run one behind the other, as each takes some gigabytes.
var greatest sync.Mutex

func wantLeft(t *testing.T, b *book.Book, left int) {
	t.Helper()
	if size := len(b.Journal()); size != 1<<28-left {
		t.Fatalf("the journal has %d bytes, want %d", size, 1<<28-left)
	}
}

// P2202, P2203, P2204, P2207, P2208, P2212: a journal that is as long as it may be. (One test, as the journal has 2^28 bytes, and is told no oftener than need be.)
func TestMaxJournal(t *testing.T) {
	t.Parallel()
	greatest.Lock()
	defer greatest.Unlock()
	b := book.New()
	add(t, b, "sums", summing(70))
	for known := longKnown(1 << 22); b.Today() < 63; {
		wantDay(t, b, known)
	}
	q := made(t, exampleQ())
	forAdd := len(journalOf(record(1, text("x")+text(string(q))))) - 8
	// A long record has a mark, its number, its kind, its length in four bytes, its body, and a checksum.
	wantDay(t, b, longKnown(1<<28-len(b.Journal())-(forAdd-1)-11))
	wantErrno(t, "Add", b.Add("x", q), api.ErrFull)
	wantErrno(t, "Add of no image", b.Add("x", nil), api.ErrShort)
	wantErrno(t, "Add of another name", b.Add("X", q), api.ErrArg)
	wantErrno(t, "Add of a known one", b.Add("sums", nil), api.ErrKnown)
	wantErrno(t, "Drop of an unknown one", b.Drop("x"), api.ErrUnknown)
	wantLeft(t, b, forAdd-1)
	// Beside its body a short one has eight bytes. A drop of sums has thirteen, one day's S has twelve.
	wantDay(t, b, pairs("S", 1, strings.Repeat("L", forAdd-1-12-8-1-3-2), 0))
	wantErrno(t, "Drop", b.Drop("sums"), api.ErrFull)
	wantRefusedDay(t, b, pairs("S", 100), api.ErrFull)
	wantRefusedDay(t, b, pairs("S", 100, "S", 1), api.ErrName)
	wantPositions(t, b, api.Position{Name: "sums"})
	wantLeft(t, b, 12)
	wantDay(t, b, pairs("S", 1))
	wantRefusedDay(t, b, nil, api.ErrFull)
	wantLeft(t, b, 0)
	holdLongest(t, b)
	wantErrno(t, "Compact", b.Compact(), api.OK)
	if len(b.Journal()) > 10000 {
		t.Errorf("%d bytes", len(b.Journal()))
	}
	for b.Today() < 70 {
		wantDay(t, b, pairs("S", 1))
	}
	add(t, b, "x", exampleQ())
	wantDay(t, b, nil, api.Entry{Day: 70, Name: "sums", Cur: "EUR", Amount: 70}, api.Entry{Day: 70, Name: "x", Cur: "USD", Amount: 7})
}

// wantRefusedDay: a day is refused; whether the journal has changed is not asked.
func wantRefusedDay(t *testing.T, b *book.Book, known []api.Pair, want api.Errno) {
	t.Helper()
	today := b.Today()
	if got, e := b.Day(known); got != nil || e != want || b.Today() != today || len(b.Ledger()) > 0 {
		t.Fatalf("Day = %v, %d, want %d; Today() = %d", got, e, want, b.Today())
	}
}

// holdLongest: the longest journal is opened; one byte more is not.
func holdLongest(t *testing.T, b *book.Book) {
	t.Helper()
	before := tellings(b)
	opened := wantOpened(t, before.journal[:1<<28-1], 1<<28-12)
	wantDay(t, opened, pairs("S", 1))
	wantTellings(t, opened, before)
	opened = wantOpened(t, before.journal, 1<<28)
	wantRefusedDay(t, opened, nil, api.ErrFull)
	wantErrno(t, "Drop", opened.Drop("sums"), api.ErrFull)
	wantPositions(t, opened, before.positions...)
	wantNotOpened(t, append(before.journal, 0), api.ErrLong)
}

// remembering looks at nothing but, on its last day, at what many names were on all the days ahead.
func remembering() api.Program {
	p := api.Program{Names: names("N", 64), Horizon: api.MaxHorizon, Stack: 1}
	var code []api.Instr
	for n := range p.Names {
		code = append(code, instr(api.OpObs, n, api.MaxHorizon), instr(api.OpDrop))
	}
	p.Days = []api.Segment{day(api.MaxHorizon, code...)}
	return p
}

// recordSize: the bytes of the record of a number whose body has so many.
func recordSize(number, body int) int {
	return 1 + len(uints(number)) + 1 + len(uints(body)) + body + 4
}

// droppedNames: names of positions whose records, as they are dropped, have so many bytes, from the number of the first on.
func droppedNames(left, number int) []string {
	var list []string
	for n := number; left > 0; n++ {
		size := min(left, 40)
		if left-size > 0 && left-size < 20 {
			size = left / 2
		}
		name := fmt.Sprintf("%c%c%c", 'd'+n/676, 'a'+n/26%26, 'a'+n%26)
		// A name's length stands ahead of it; five numbers and two empty texts behind it.
		name += strings.Repeat("_", size-recordSize(n, 1+len(name)+7))
		list = append(list, name)
		left -= size
	}
	return list
}

// greatRow: what many names are on a day, each number of which has as many bytes as it may: 704 of a state.
func greatRow() []api.Cell { return slices.Repeat([]api.Cell{{Has: true, V: math.MinInt}}, 64) }

// greatSize: the bytes of the record of a number of a position of remembering that was taken in on a day, when it is day 3660.
func greatSize(t *testing.T, number, since int) int {
	t.Helper()
	p := remembering()
	m, _ := machine.New(p)
	for range 3660 - since {
		m.Day(greatRow())
	}
	saved, e := save.Freeze(p, m)
	if e != api.OK {
		t.Fatal(e)
	}
	return recordSize(number, len(text("big000")+uints(since, 0, 0, 0, 0)+text(string(made(t, p)))+text(string(saved))))
}

// bigBook: a book on day 3660, with so many great positions, and one that is not so great, that its group has room for small ones alone; how many bytes are left for them, and the number of their first record.
func bigBook(t *testing.T) (*book.Book, int, int) {
	t.Helper()
	img, great := made(t, remembering()), greatSize(t, 1, 0)
	// Of the head, whose second number has two bytes, and of the tail.
	left := 1<<28 - 8 - recordSize(0, 5) - recordSize(200, 0)
	b, number := book.New(), 1
	for ; left > great+10000; number++ {
		left -= great
		wantErrno(t, "Add", b.Add(fmt.Sprintf("big%03d", number), img), api.OK)
	}
	var known []api.Pair
	for _, name := range remembering().Names {
		known = append(known, api.Pair{Name: name, V: math.MinInt})
	}
	since := 3660 - (left-5000)/704
	for b.Today() < 3660 {
		if b.Today() == since {
			wantErrno(t, "Add", b.Add("big999", img), api.OK)
		}
		wantDay(t, b, known)
	}
	left -= greatSize(t, number, since)
	return b, left, number + 1
}

// P2207, P2208, P2212: the longest group that there may be, and one that is longer by one byte.
func TestLongestGroup(t *testing.T) {
	t.Parallel()
	greatest.Lock()
	defer greatest.Unlock()
	b, left, number := bigBook(t)
	list := droppedNames(left, number)
	last := len(list) - 1
	for _, name := range list[:last] {
		add(t, b, name, exampleQ())
		drop(t, b, name)
	}
	all := b.Journal()
	add(t, b, list[last]+"_", exampleQ())
	drop(t, b, list[last]+"_")
	before := tellings(b)
	wantErrno(t, "Compact", b.Compact(), api.ErrFull)
	wantTellings(t, b, before)
	b = wantOpened(t, all, len(all))
	add(t, b, list[last], exampleQ())
	drop(t, b, list[last])
	before = tellings(b)
	wantErrno(t, "Compact", b.Compact(), api.OK)
	wantLeft(t, b, 0)
	wantRefusedDay(t, b, nil, api.ErrFull)
	before.journal = b.Journal()
	wantTellings(t, wantOpened(t, before.journal, 1<<28), before)
}
