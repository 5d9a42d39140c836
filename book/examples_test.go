package book_test

import (
	"bytes"
	"slices"
	"testing"

	"payoff/api"
	"payoff/book"
	"payoff/image"
	"payoff/journal"
)

// The examples of the chapter.

func made(t testing.TB, p api.Program) []byte {
	t.Helper()
	b, e := image.Encode(p)
	if e != api.OK {
		t.Fatalf("no image: %d", e)
	}
	return b
}

// instr: an instruction, its operands behind its Op.
func instr(op int, operands ...int) api.Instr {
	i := api.Instr{Op: op}
	for n, place := range []*int{&i.A, &i.B} {
		if n < len(operands) {
			*place = operands[n]
		}
	}
	return i
}

// day: a day's code, closed by its end.
func day(d int, code ...api.Instr) api.Segment {
	return api.Segment{Day: d, Code: append(slices.Clone(code), instr(api.OpEnd))}
}

// exampleP lets S flow on day 0, and S / 0 on day 1.
func exampleP() api.Program {
	return api.Program{Names: []string{"S"}, Curs: []string{"EUR"}, Pool: []int{0}, Horizon: 1, Stack: 2, Days: []api.Segment{
		day(0, instr(api.OpObs), instr(api.OpFlow)),
		day(1, instr(api.OpObs), instr(api.OpConst), instr(api.OpDiv), instr(api.OpFlow)),
	}}
}

// exampleQ lets 7 flow on day 0.
func exampleQ() api.Program {
	return api.Program{Curs: []string{"USD"}, Pool: []int{7}, Stack: 1, Days: []api.Segment{day(0, instr(api.OpConst), instr(api.OpFlow))}}
}

func pairs(name string, v int, rest ...any) []api.Pair {
	list := []api.Pair{{Name: name, V: v}}
	for n := 0; n < len(rest); n += 2 {
		list = append(list, api.Pair{Name: rest[n].(string), V: rest[n+1].(int)})
	}
	return list
}

func wantErrno(t *testing.T, what string, got, want api.Errno) {
	t.Helper()
	if got != want {
		t.Fatalf("%s: %d, want %d", what, got, want)
	}
}

func wantDay(t *testing.T, b *book.Book, known []api.Pair, want ...api.Entry) {
	t.Helper()
	today := b.Today()
	got, e := b.Day(known)
	if e != api.OK || !slices.Equal(got, want) || b.Today() != today+1 {
		t.Fatalf("Day(%v) = %v, %d, want %v; Today() = %d", known, got, e, want, b.Today())
	}
}

// wantNoDay: a day is refused, and nothing changes.
func wantNoDay(t *testing.T, b *book.Book, known []api.Pair, want api.Errno) {
	t.Helper()
	before := tellings(b)
	if got, e := b.Day(known); e != want || got != nil {
		t.Fatalf("Day = %v, %d, want %d", got, e, want)
	}
	wantTellings(t, b, before)
}

func wantPositions(t *testing.T, b *book.Book, want ...api.Position) {
	t.Helper()
	if got := b.Positions(); !slices.Equal(got, want) {
		t.Fatalf("Positions() = %+v, want %+v", got, want)
	}
}

func wantLedger(t *testing.T, b *book.Book, want ...api.Entry) {
	t.Helper()
	if got := b.Ledger(); !slices.Equal(got, want) {
		t.Fatalf("Ledger() = %+v, want %+v", got, want)
	}
}

func wantBalance(t *testing.T, b *book.Book, name string, want ...api.Total) {
	t.Helper()
	if got, fault, e := b.Balance(name); !slices.Equal(got, want) || fault != api.NoFault || e != api.OK {
		t.Fatalf("Balance(%q) = %v, %d, %d, want %v", name, got, fault, e, want)
	}
}

func wantUnknown(t *testing.T, b *book.Book, name string) {
	t.Helper()
	if got, fault, e := b.Balance(name); got != nil || fault != api.NoFault || e != api.ErrUnknown {
		t.Fatalf("Balance(%q) = %v, %d, %d", name, got, fault, e)
	}
}

// recordsIn: the records of a journal, all of which stand whole.
func recordsIn(t *testing.T, b []byte) []api.Record {
	t.Helper()
	j, size, e := journal.Open(b)
	if e != api.OK || size != len(b) {
		t.Fatalf("the journal: %d of %d bytes, %d", size, len(b), e)
	}
	return recordsOf(j)
}

// wantRecords: a journal has just these records.
func wantRecords(t *testing.T, b *book.Book, want ...api.Record) {
	t.Helper()
	got := recordsIn(t, b.Journal())
	same := func(x, y api.Record) bool { return x.Kind == y.Kind && bytes.Equal(x.Body, y.Body) }
	if !slices.EqualFunc(got, want, same) {
		t.Fatalf("the journal's records: %v, want %v", got, want)
	}
}

// wantOpened: Open gives a book of so many bytes.
func wantOpened(t *testing.T, bytes []byte, size int) *book.Book {
	t.Helper()
	b, n, e := book.Open(bytes)
	if b == nil || n != size || e != api.OK {
		t.Fatalf("Open of %d bytes = %d, %d, want %d", len(bytes), n, e, size)
	}
	return b
}

func wantNotOpened(t *testing.T, bytes []byte, want api.Errno) {
	t.Helper()
	if b, n, e := book.Open(bytes); b != nil || n != 0 || e != want {
		t.Fatalf("Open of %d bytes = %v, %d, %d, want %d", len(bytes), b, n, e, want)
	}
}

// telling: all that a book tells.
type telling struct {
	today     int
	positions []api.Position
	ledger    []api.Entry
	journal   []byte
}

func tellings(b *book.Book) telling {
	return telling{b.Today(), b.Positions(), b.Ledger(), b.Journal()}
}

func wantTellings(t *testing.T, b *book.Book, want telling) {
	t.Helper()
	got := tellings(b)
	if got.today != want.today || !slices.Equal(got.positions, want.positions) || !slices.Equal(got.ledger, want.ledger) {
		t.Fatalf("the book tells %d, %+v, %+v, want %d, %+v, %+v", got.today, got.positions, got.ledger, want.today, want.positions, want.ledger)
	}
	if !bytes.Equal(got.journal, want.journal) {
		t.Fatalf("the journal: %d bytes, want %d", len(got.journal), len(want.journal))
	}
}

// lived: the book of example 1.
func lived(t *testing.T) *book.Book {
	t.Helper()
	p, q := made(t, exampleP()), made(t, exampleQ())
	b := book.New()
	wantErrno(t, "Add a", b.Add("a", p), api.OK)
	wantErrno(t, "Add a again", b.Add("a", q), api.ErrKnown)
	wantErrno(t, "Add A", b.Add("A", q), api.ErrArg)
	wantErrno(t, "Add deal", b.Add("deal", q), api.ErrArg)
	wantErrno(t, "Add of 9 bytes", b.Add("b", p[:9]), api.ErrShort)
	wantDay(t, b, pairs("S", 5), api.Entry{Day: 0, Name: "a", Cur: "EUR", Amount: 5})
	wantErrno(t, "Add b", b.Add("b", q), api.OK)
	wantDay(t, b, pairs("S", 3, "X", 1), api.Entry{Day: 1, Name: "b", Cur: "USD", Amount: 7})
	return b
}

// P2201 to P2205
func TestExample1(t *testing.T) {
	b := lived(t)
	wantPositions(t, b, api.Position{Name: "a", State: api.Faulted, Fault: api.DivZero, Day: 1}, api.Position{Name: "b", Since: 1, State: api.Ended, Day: 1})
}

func exampleLedger() []api.Entry {
	return []api.Entry{{Day: 0, Name: "a", Cur: "EUR", Amount: 5}, {Day: 1, Name: "b", Cur: "USD", Amount: 7}}
}

// P2204, P2206
func TestExample2(t *testing.T) {
	b := lived(t)
	wantDay(t, b, nil)
	wantNoDay(t, b, pairs("s", 1), api.ErrName)
	wantNoDay(t, b, pairs("S", 1, "S", 1), api.ErrName)
	if b.Today() != 3 {
		t.Errorf("Today() = %d", b.Today())
	}
	wantBalance(t, b, "a", api.Total{Cur: "EUR", Amount: 5})
	wantUnknown(t, b, "c")
}

// dropped: the book of example 3.
func dropped(t *testing.T) *book.Book {
	t.Helper()
	b := lived(t)
	wantDay(t, b, nil)
	wantErrno(t, "Drop", b.Drop("a"), api.OK)
	return b
}

// P2202, P2203, P2205, P2206
func TestExample3(t *testing.T) {
	b := dropped(t)
	wantPositions(t, b, api.Position{Name: "b", Since: 1, State: api.Ended, Day: 1})
	wantLedger(t, b, exampleLedger()...)
	wantBalance(t, b, "a", api.Total{Cur: "EUR", Amount: 5})
	wantErrno(t, "Drop again", b.Drop("a"), api.ErrUnknown)
	wantErrno(t, "Add a", b.Add("a", made(t, exampleQ())), api.ErrKnown)
}

// exampleRecords: what the book of example 3 has journalled.
func exampleRecords(t *testing.T) []api.Record {
	p, q := made(t, exampleP()), made(t, exampleQ())
	return []api.Record{
		record(1, "\x01a"+text(string(p))), record(3, "\x01\x01S\x0a"),
		record(1, "\x01b"+text(string(q))), record(3, "\x02\x01S\x06\x01X\x02"),
		record(3, "\x00"), record(2, "\x01a"),
	}
}

// P2202, P2203, P2204, P2205, P2208
func TestExample4(t *testing.T) {
	b := dropped(t)
	wantRecords(t, b, exampleRecords(t)...)
	all := b.Journal()
	wantTellings(t, wantOpened(t, all, len(all)), tellings(b))
	before := lived(t)
	wantDay(t, before, nil)
	wantTellings(t, wantOpened(t, all[:len(all)-1], len(before.Journal())), tellings(before))
	wantTellings(t, wantOpened(t, []byte("PAYJ"), 0), tellings(book.New()))
	wantNotOpened(t, []byte("PAYJRNL2"), api.ErrMagic)
}

// P2207, P2208, P2212
func TestExample5(t *testing.T) {
	b := dropped(t)
	before := tellings(b)
	wantErrno(t, "Compact", b.Compact(), api.OK)
	wantRecords(t, b, record(4, "\x03\x02\x02"), record(5, "\x01a\x00\x00\x00\x00\x01\x00\x00"), record(5, "\x01b\x01\x01\x00\x01\x00\x00\x00"), record(6, "\x02\x00\x00\x03EUR\x0a\x01\x01\x03USD\x0e"), record(7, ""))
	before.journal = b.Journal()
	wantTellings(t, b, before)
	wantTellings(t, wantOpened(t, before.journal, len(before.journal)), before)
	j, _, _ := journal.Open(before.journal)
	wantTellings(t, wantOpened(t, before.journal[:j.Ends()[3]], 8), tellings(book.New()))
}

// P2204, P2208
func TestExample6(t *testing.T) {
	b := dropped(t)
	wantErrno(t, "Add c", b.Add("c", made(t, api.Program{})), api.OK)
	wantDay(t, b, nil)
	wantPositions(t, b, api.Position{Name: "b", Since: 1, State: api.Ended, Day: 1}, api.Position{Name: "c", Since: 3, State: api.Ended, Day: 3})
	first := journalOf(record(3, "\x00"))
	for _, odd := range []api.Record{record(2, "\x01z"), record(3, "\x00\x00")} {
		opened := wantOpened(t, journalOf(record(3, "\x00"), odd, record(3, "\x00")), len(first))
		wantTellings(t, opened, telling{today: 1, journal: first})
	}
}
