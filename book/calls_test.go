package book_test

import (
	"math"
	"slices"
	"strings"
	"testing"

	"payoff/api"
	"payoff/book"
)

// longLived goes on for so many days behind its first, and lets S flow on each, in EUR; on its last day it lets 1 / S flow too.
func longLived(horizon int) api.Program {
	p := api.Program{Names: []string{"S"}, Curs: []string{"EUR"}, Pool: []int{1}, Horizon: horizon, Stack: 2}
	for d := range horizon + 1 {
		code := []api.Instr{instr(api.OpObs), instr(api.OpFlow)}
		if d == horizon {
			code = append(code, instr(api.OpConst), instr(api.OpObs), instr(api.OpDiv), instr(api.OpFlow))
		}
		p.Days = append(p.Days, day(d, code...))
	}
	return p
}

func add(t *testing.T, b *book.Book, name string, p api.Program) {
	t.Helper()
	wantErrno(t, "Add "+name, b.Add(name, made(t, p)), api.OK)
}

func drop(t *testing.T, b *book.Book, name string) {
	t.Helper()
	wantErrno(t, "Drop "+name, b.Drop(name), api.OK)
}

// wantNotAdded: a position is refused, and nothing changes.
func wantNotAdded(t *testing.T, b *book.Book, name string, image []byte, want api.Errno) {
	t.Helper()
	before := tellings(b)
	wantErrno(t, "Add "+name, b.Add(name, image), want)
	wantTellings(t, b, before)
}

func wantNotDropped(t *testing.T, b *book.Book, name string, want api.Errno) {
	t.Helper()
	before := tellings(b)
	wantErrno(t, "Drop "+name, b.Drop(name), want)
	wantTellings(t, b, before)
}

// P2201
func TestNew(t *testing.T) {
	b := book.New()
	wantTellings(t, b, telling{journal: []byte("PAYJRNL1")})
	wantUnknown(t, b, "a")
	wantUnknown(t, b, "")
	hold(t, b, plainNew())
}

// P2202: names.
func TestAddNames(t *testing.T) {
	b := book.New()
	q := made(t, exampleQ())
	long := strings.Repeat("n", 31)
	for _, name := range []string{"a", "z_9", long, "deals", "as"} {
		wantErrno(t, "Add "+name, b.Add(name, q), api.OK)
		wantNotAdded(t, b, name, q, api.ErrKnown)
	}
	for _, name := range []string{"", "A", "Ab", "aB", "9", "_a", "a b", "a ", " a", "a-", "a\x00", "\xff", "deal", "half_even", long + "n", "é"} {
		wantNotAdded(t, b, name, q, api.ErrArg)
		wantNotAdded(t, b, name, nil, api.ErrArg)
	}
	wantNotAdded(t, b, "a", nil, api.ErrKnown)
	if len(b.Positions()) != 5 {
		t.Errorf("%d positions", len(b.Positions()))
	}
}

// P2202: a name is taken for ever, whatever became of its position, and also where the book was opened.
func TestAddTaken(t *testing.T) {
	b := book.New()
	q := made(t, exampleQ())
	add(t, b, "runs", longLived(9))
	add(t, b, "ends", exampleQ())
	add(t, b, "faults", exampleP())
	add(t, b, "gone", longLived(9))
	drop(t, b, "gone")
	wantTaken := func(b *book.Book) {
		t.Helper()
		for _, name := range []string{"runs", "ends", "faults", "gone"} {
			wantNotAdded(t, b, name, q, api.ErrKnown)
		}
	}
	wantTaken(b)
	for range 3 {
		wantErrno(t, "Compact", b.Compact(), api.OK)
		wantTaken(b)
		opened := wantOpened(t, b.Journal(), len(b.Journal()))
		wantTaken(opened)
		b = opened
		if _, e := b.Day(pairs("S", 2)); e != api.OK {
			t.Fatal(e)
		}
	}
	drop(t, b, "ends")
	drop(t, b, "faults")
	wantTaken(b)
}

// P2202: what the image's layer and the verifier say.
func TestAddImages(t *testing.T) {
	b := book.New()
	add(t, b, "a", longLived(3))
	p := made(t, exampleP())
	spoilt := slices.Clone(p)
	spoilt[len(spoilt)-1] ^= 1
	wantNotAdded(t, b, "b", nil, api.ErrShort)
	wantNotAdded(t, b, "b", p[:len(p)-1], api.ErrSum)
	wantNotAdded(t, b, "b", spoilt, api.ErrSum)
	wantNotAdded(t, b, "b", []byte("PAYJRNL1"), api.ErrMagic)
	wantNotAdded(t, b, "b", append(slices.Clone(p), 0), api.ErrSum)
	wantNotAdded(t, b, "b", make([]byte, 1<<21+1), api.ErrLong)
	for want, change := range map[api.Errno]func(p *api.Program){
		api.ErrStack: func(p *api.Program) { p.Days[0].Code = p.Days[0].Code[1:] },
		api.ErrSort:  func(p *api.Program) { p.Days[0].Code[0] = instr(api.OpBool, 1) },
		api.ErrBack:  func(p *api.Program) { p.Days[0].Code[0].B = 1 },
		api.ErrProof: func(p *api.Program) { p.Stack = 3 },
		api.ErrSlot:  func(p *api.Program) { p.Slots, p.Days[0].Code[0] = 1, instr(api.OpGet) },
		api.ErrJump:  func(p *api.Program) { p.Days[0] = day(0, instr(api.OpJump, 1)) },
		api.ErrDead: func(p *api.Program) {
			p.Days[0] = day(0, instr(api.OpJump, 1), instr(api.OpObs), instr(api.OpObs), instr(api.OpFlow))
		},
	} {
		p := exampleP()
		change(&p)
		wantNotAdded(t, b, "b", made(t, p), want)
	}
	// The name may still be taken.
	add(t, b, "b", exampleP())
}

// P2202, P2204: positions stand in the order in which they were taken in, each of its own days, also two of one image.
func TestAddOrder(t *testing.T) {
	b := book.New()
	add(t, b, "z", longLived(1))
	wantDay(t, b, pairs("S", 3), api.Entry{Name: "z", Cur: "EUR", Amount: 3})
	add(t, b, "y", longLived(1))
	add(t, b, "a", longLived(1))
	wantDay(t, b, pairs("S", 1), []api.Entry{{Day: 1, Name: "z", Cur: "EUR", Amount: 1}, {Day: 1, Name: "z", Cur: "EUR", Amount: 1}, {Day: 1, Name: "y", Cur: "EUR", Amount: 1}, {Day: 1, Name: "a", Cur: "EUR", Amount: 1}}...)
	add(t, b, "m", longLived(1))
	wantDay(t, b, pairs("S", 0), []api.Entry{{Day: 2, Name: "y", Cur: "EUR"}, {Day: 2, Name: "a", Cur: "EUR"}, {Day: 2, Name: "m", Cur: "EUR"}}...)
	wantPositions(t, b, []api.Position{{Name: "z", State: api.Ended, Day: 1}, {Name: "y", Since: 1, State: api.Faulted, Fault: api.DivZero, Day: 2}, {Name: "a", Since: 1, State: api.Faulted, Fault: api.DivZero, Day: 2}, {Name: "m", Since: 2}}...)
}

// P2203
func TestDrop(t *testing.T) {
	b := book.New()
	wantNotDropped(t, b, "a", api.ErrUnknown)
	add(t, b, "a", longLived(1))
	add(t, b, "ab", longLived(2))
	add(t, b, "b", longLived(3))
	for _, name := range []string{"", "A", "c", "abc", "a ", "a\x00"} {
		wantNotDropped(t, b, name, api.ErrUnknown)
	}
	wantDay(t, b, pairs("S", 4), []api.Entry{{Name: "a", Cur: "EUR", Amount: 4}, {Name: "ab", Cur: "EUR", Amount: 4}, {Name: "b", Cur: "EUR", Amount: 4}}...)
	drop(t, b, "ab")
	wantNotDropped(t, b, "ab", api.ErrUnknown)
	// It flows no more; what has flowed stays.
	wantDay(t, b, pairs("S", 1), []api.Entry{{Day: 1, Name: "a", Cur: "EUR", Amount: 1}, {Day: 1, Name: "a", Cur: "EUR", Amount: 1}, {Day: 1, Name: "b", Cur: "EUR", Amount: 1}}...)
	wantBalance(t, b, "ab", api.Total{Cur: "EUR", Amount: 4})
	// One that has ended, and one that has faulted.
	wantDay(t, b, nil)
	wantPositions(t, b, api.Position{Name: "a", State: api.Ended, Day: 1}, api.Position{Name: "b", State: api.Faulted, Fault: api.NoObs, Day: 2})
	ledger := b.Ledger()
	for _, name := range []string{"b", "a"} {
		drop(t, b, name)
		wantNotDropped(t, b, name, api.ErrUnknown)
	}
	wantPositions(t, b)
	wantLedger(t, b, ledger...)
	wantDay(t, b, pairs("S", 1))
	wantBalance(t, b, "a", api.Total{Cur: "EUR", Amount: 6})
	wantBalance(t, b, "b", api.Total{Cur: "EUR", Amount: 5})
}

// P2204: names of pairs.
func TestDayNames(t *testing.T) {
	b := book.New()
	add(t, b, "a", longLived(99))
	long := strings.Repeat("N", 31)
	for _, name := range []string{"", "s", "Ss", "9", "_", "A B", "A-", "Ä", "\x00", long + "N"} {
		wantNoDay(t, b, pairs(name, 1), api.ErrName)
		wantNoDay(t, b, pairs("S", 1, name, 1), api.ErrName)
		wantNoDay(t, b, pairs(name, 1, "S", 1), api.ErrName)
	}
	wantNoDay(t, b, pairs("S", 1, "T", 1, "S", 1), api.ErrName)
	wantNoDay(t, b, pairs("T", 1, "S", 1, "S", 2), api.ErrName)
	wantDay(t, b, pairs("T", 1, "S", 6, "A_1", 0, long, 9), api.Entry{Name: "a", Cur: "EUR", Amount: 6})
	if got := b.Journal(); !strings.Contains(string(got), "\x04\x01T\x02\x01S\x0c\x03A_1\x00\x1f"+long+"\x12") {
		t.Errorf("the pairs are not journalled in their order: %q", got)
	}
}

// P2204: what a row says to a program, by its names.
func TestDayRows(t *testing.T) {
	// On day 1: B, C, then A of the day before; 1 / (C less 1) at the end.
	p := api.Program{Names: []string{"A", "B", "C"}, Curs: []string{"CHF", "EUR", "USD"}, Pool: []int{1}, Horizon: 3, Stack: 3, Days: []api.Segment{day(1,
		instr(api.OpObs, 1), instr(api.OpFlow, 2), instr(api.OpObs, 2), instr(api.OpFlow, 0), instr(api.OpObs, 0, 1), instr(api.OpFlow, 1),
		instr(api.OpConst), instr(api.OpObs, 2), instr(api.OpConst), instr(api.OpSub), instr(api.OpDiv), instr(api.OpFlow, 1))}}
	flows := func(usd, chf int, eur ...int) []api.Entry {
		list := []api.Entry{{Day: 2, Name: "x", Cur: "USD", Amount: usd}, {Day: 2, Name: "x", Cur: "CHF", Amount: chf}}
		for _, v := range eur {
			list = append(list, api.Entry{Day: 2, Name: "x", Cur: "EUR", Amount: v})
		}
		return list
	}
	for _, c := range []struct {
		first, second []api.Pair
		flows         []api.Entry
		fault         api.Fault
	}{
		{pairs("A", 5), pairs("B", 7, "C", 2), flows(7, 2, 5, 1), api.NoFault},
		{pairs("A", 5, "B", 8), pairs("C", 0, "B", math.MinInt, "A", 9), flows(math.MinInt, 0, 5, -1), api.NoFault},
		{pairs("A", math.MaxInt), pairs("C", 1, "X", 3, "B", 7), flows(7, 1, math.MaxInt), api.DivZero},
		{pairs("A", 5), pairs("C", math.MinInt, "B", 0), flows(0, math.MinInt, 5), api.Overflow},
		{nil, pairs("B", 7, "C", 2), flows(7, 2), api.NoObs},
		{pairs("B", 5), pairs("A", 1, "B", 7, "C", 2), flows(7, 2), api.NoObs},
		{pairs("A", 5), pairs("B", 7), flows(7, 0)[:1], api.NoObs},
		{pairs("A", 5), pairs("A", 5, "C", 1), nil, api.NoObs},
	} {
		b := book.New()
		wantDay(t, b, pairs("A", 77, "C", 77))
		add(t, b, "x", p)
		wantDay(t, b, c.first)
		wantDay(t, b, c.second, c.flows...)
		want := api.Position{Name: "x", Since: 1}
		if c.fault != api.NoFault {
			want = api.Position{Name: "x", Since: 1, State: api.Faulted, Fault: c.fault, Day: 2}
		}
		wantPositions(t, b, want)
		wantLedger(t, b, c.flows...)
	}
}

// P2204: a position ends on its horizon's day, or with a fault on it; no flow need come.
func TestDayEnds(t *testing.T) {
	for _, c := range []struct {
		last []api.Pair
		want api.Position
	}{
		{pairs("S", 1), api.Position{Name: "a", Since: 2, State: api.Ended, Day: 5}},
		{pairs("S", 0), api.Position{Name: "a", Since: 2, State: api.Faulted, Fault: api.DivZero, Day: 5}},
		{nil, api.Position{Name: "a", Since: 2, State: api.Faulted, Fault: api.NoObs, Day: 5}},
	} {
		b := book.New()
		b.Day(nil)
		b.Day(nil)
		add(t, b, "a", longLived(3))
		for range 3 {
			wantPositions(t, b, api.Position{Name: "a", Since: 2})
			b.Day(pairs("S", 8))
		}
		wantPositions(t, b, api.Position{Name: "a", Since: 2})
		b.Day(c.last)
		wantPositions(t, b, c.want)
		// Behind its end nothing of it changes.
		ledger := b.Ledger()
		wantDay(t, b, pairs("S", 3))
		wantPositions(t, b, c.want)
		wantLedger(t, b, ledger...)
	}
	b := book.New()
	add(t, b, "quiet", api.Program{Horizon: 1})
	wantDay(t, b, nil)
	wantPositions(t, b, api.Position{Name: "quiet"})
	wantDay(t, b, nil)
	wantPositions(t, b, api.Position{Name: "quiet", State: api.Ended, Day: 1})
}

// P2206
func TestBalance(t *testing.T) {
	p := api.Program{Names: []string{"A", "B"}, Curs: []string{"EUR", "USD"}, Horizon: 9, Stack: 1}
	for d := range 9 {
		p.Days = append(p.Days, day(d, instr(api.OpObs, 1), instr(api.OpFlow, 1), instr(api.OpObs, 0), instr(api.OpFlow, 0)))
	}
	b := book.New()
	add(t, b, "a", p)
	add(t, b, "aa", p)
	wantBalance(t, b, "a")
	wantUnknown(t, b, "b")
	wantUnknown(t, b, "A")
	b.Day(pairs("A", 4, "B", math.MinInt))
	wantBalance(t, b, "a", api.Total{Cur: "EUR", Amount: 4}, api.Total{Cur: "USD", Amount: math.MinInt})
	drop(t, b, "aa")
	b.Day(pairs("A", -9, "B", math.MaxInt))
	wantBalance(t, b, "a", api.Total{Cur: "EUR", Amount: -5}, api.Total{Cur: "USD", Amount: -1})
	wantBalance(t, b, "aa", api.Total{Cur: "EUR", Amount: 4}, api.Total{Cur: "USD", Amount: math.MinInt})
	// A sum outside 64 bits, also if a later amount would bring it back.
	b.Day(pairs("A", 1, "B", math.MinInt))
	b.Day(pairs("A", 1, "B", 5))
	if totals, fault, e := b.Balance("a"); totals != nil || fault != api.Overflow || e != api.OK {
		t.Errorf("Balance = %v, %d, %d", totals, fault, e)
	}
	drop(t, b, "a")
	if totals, fault, e := b.Balance("a"); totals != nil || fault != api.Overflow || e != api.OK {
		t.Errorf("Balance = %v, %d, %d", totals, fault, e)
	}
	wantBalance(t, b, "aa", api.Total{Cur: "EUR", Amount: 4}, api.Total{Cur: "USD", Amount: math.MinInt})
}

// P2207: the group of books of several kinds.
func TestCompactRecords(t *testing.T) {
	b := book.New()
	wantErrno(t, "Compact", b.Compact(), api.OK)
	wantRecords(t, b, record(4, "\x00\x00\x00"), record(7, ""))
	b = book.New()
	wantDay(t, b, nil)
	add(t, b, "gone", longLived(5))
	add(t, b, "runs", longLived(5))
	add(t, b, "ends", api.Program{})
	wantDay(t, b, pairs("S", -3), []api.Entry{{Day: 1, Name: "gone", Cur: "EUR", Amount: -3}, {Day: 1, Name: "runs", Cur: "EUR", Amount: -3}}...)
	drop(t, b, "gone")
	drop(t, b, "ends")
	wantErrno(t, "Compact", b.Compact(), api.OK)
	img := made(t, longLived(5))
	// One day of three instructions was run; there are no cells, and nothing is looked back to.
	state := sealed("PAYSAVE1", string(img[len(img)-4:]), "\x01\x03\x00\x00", "", "")
	wantRecords(t, b, record(4, "\x02\x03\x02"), record(5, "\x04gone\x00\x00\x00\x00\x01\x00\x00"), record(5, "\x04runs\x01\x00\x00\x00\x00"+text(string(img))+text(state)), record(5, "\x04ends\x00\x00\x00\x00\x01\x00\x00"), record(6, "\x02\x01\x00\x03EUR\x05\x01\x01\x03EUR\x05"), record(7, ""))
}

// P2207: an empty ledger has no record, 4096 entries have one, one more has two.
func TestCompactLedgers(t *testing.T) {
	for _, entries := range []int{0, 1, 4095, 4096, 4097, 8192, 8193, 12000} {
		b := book.New()
		p := api.Program{Curs: []string{"EUR"}, Pool: []int{-1}, Stack: 1}
		var code []api.Instr
		for range entries {
			code = append(code, instr(api.OpConst), instr(api.OpFlow))
		}
		p.Days = []api.Segment{day(0, code...)}
		if entries == 0 {
			p = api.Program{}
		}
		add(t, b, "a", p)
		b.Day(nil)
		wantErrno(t, "Compact", b.Compact(), api.OK)
		want := []api.Record{record(4, uints(1, 1, entries)), record(5, "\x01a\x00\x01\x00\x00\x00\x00\x00")}
		for left := entries; left > 0; left -= 4096 {
			want = append(want, record(6, uints(min(left, 4096))+strings.Repeat("\x00\x00\x03EUR\x01", min(left, 4096))))
		}
		wantRecords(t, b, append(want, record(7, ""))...)
		wantTellings(t, wantOpened(t, b.Journal(), len(b.Journal())), tellings(b))
	}
}
