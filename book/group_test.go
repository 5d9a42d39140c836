package book_test

import (
	"fmt"
	"math"
	"slices"
	"strings"
	"testing"

	"payoff/api"
	"payoff/book"
	"payoff/machine"
	"payoff/save"
)

// written: a record 5 that may be wrong.
type written struct {
	name                             string
	since, state, fault, on, dropped int
	img, saved, extra                string
}

func (w written) record() api.Record {
	return record(5, text(w.name)+uints(w.since, w.state, w.fault, w.on, w.dropped)+text(w.img)+text(w.saved)+w.extra)
}

// line: an entry of a record 6.
type line struct {
	on, number int
	cur        string
	amount     int
}

// grouped: a group that may be wrong.
type grouped struct {
	today, positions, entries int
	list                      []written
	lines                     [][]line
	head, last, tail          string // what stands behind the bodies of the records 4, 6 and 7
	counts                    int    // by how much the last record 6 tells more entries than it has
}

func (g grouped) records() []api.Record {
	all := []api.Record{record(4, uints(g.today, g.positions, g.entries)+g.head)}
	for _, w := range g.list {
		all = append(all, w.record())
	}
	for n, lines := range g.lines {
		body, counts, extra := "", 0, ""
		if n == len(g.lines)-1 {
			counts, extra = g.counts, g.last
		}
		for _, l := range lines {
			body += uints(l.on, l.number) + text(l.cur) + number(l.amount)
		}
		all = append(all, record(6, uints(len(lines)+counts)+body+extra))
	}
	return append(all, record(7, g.tail))
}

// exampleGroup: one position of each kind, and some entries of each.
func exampleGroup(t testing.TB) grouped {
	t.Helper()
	img, saved := running(t, longLived(9), 3)
	return grouped{
		today: 5, positions: 4, entries: 5,
		list: []written{
			{name: "gone", dropped: 1},
			{name: "ends", since: 1, state: 1, on: 3},
			{name: "faults", state: 2, fault: 2, on: 4},
			{name: "runs", since: 2, img: img, saved: saved},
		},
		lines: [][]line{{{0, 2, "EUR", 1}, {0, 0, "USD", -1}, {3, 1, "CHF", math.MinInt}, {3, 0, "EUR", 0}, {4, 3, "EUR", math.MaxInt}}},
	}
}

// running: the image of a program that pays S on each day, and the state of a machine of it behind so many days.
func running(t testing.TB, p api.Program, days int) (string, string) {
	t.Helper()
	m, e := machine.New(p)
	for range days {
		if e == api.OK {
			_, _, e = m.Day([]api.Cell{{Has: true, V: 2}})
		}
	}
	if e != api.OK {
		t.Fatal(e)
	}
	saved, e := save.Freeze(p, m)
	if e != api.OK {
		t.Fatal(e)
	}
	return string(made(t, p)), string(saved)
}

// wantGroup: a group is taken, or it is not; what stands behind it counts only if it is.
func wantGroup(t *testing.T, what string, g grouped, taken bool) {
	t.Helper()
	records := append(g.records(), record(3, "\x01\x01S\x04"))
	b := journalOf(records...)
	size := 8
	if taken {
		size = len(b)
	}
	opened, n, e := book.Open(b)
	if e != api.OK || n != size {
		t.Fatalf("%s: Open = %d, %d, want %d", what, n, e, size)
	}
	if !taken {
		wantTellings(t, opened, tellings(book.New()))
	}
	holdOpen(t, b)
	for cut := range len(records) - 2 {
		wantTellings(t, wantOpened(t, journalOf(records[:cut+1]...), 8), tellings(book.New()))
	}
}

// P2208, P2209: the example's group, and what it says.
func TestGroup(t *testing.T) {
	g := exampleGroup(t)
	wantGroup(t, "as it is", g, true)
	b := wantOpened(t, journalOf(g.records()...), len(journalOf(g.records()...)))
	wantPositions(t, b, api.Position{Name: "ends", Since: 1, State: api.Ended, Day: 3}, api.Position{Name: "faults", State: api.Faulted, Fault: api.DivZero, Day: 4}, api.Position{Name: "runs", Since: 2})
	wantLedger(t, b, []api.Entry{{Day: 0, Name: "faults", Cur: "EUR", Amount: 1}, {Day: 0, Name: "gone", Cur: "USD", Amount: -1}, {Day: 3, Name: "ends", Cur: "CHF", Amount: math.MinInt}, {Day: 3, Name: "gone", Cur: "EUR"}, {Day: 4, Name: "runs", Cur: "EUR", Amount: math.MaxInt}}...)
	wantBalance(t, b, "gone", api.Total{Cur: "EUR"}, api.Total{Cur: "USD", Amount: -1})
	wantNotAdded(t, b, "gone", nil, api.ErrKnown)
	wantNotDropped(t, b, "gone", api.ErrUnknown)
	if b.Today() != 5 {
		t.Errorf("Today() = %d", b.Today())
	}
	before := b.Journal()
	wantErrno(t, "Compact", b.Compact(), api.OK)
	if !slices.Equal(b.Journal(), before) {
		t.Error("Compact of what a group says is another group")
	}
	for range 6 {
		if entries, e := b.Day(pairs("S", 1)); e != api.OK || len(entries) != 1 {
			t.Fatalf("Day = %v, %d", entries, e)
		}
	}
	wantDay(t, b, pairs("S", 1), api.Entry{Day: 11, Name: "runs", Cur: "EUR", Amount: 1}, api.Entry{Day: 11, Name: "runs", Cur: "EUR", Amount: 1})
	wantPositions(t, b, api.Position{Name: "ends", Since: 1, State: api.Ended, Day: 3}, api.Position{Name: "faults", State: api.Faulted, Fault: api.DivZero, Day: 4}, api.Position{Name: "runs", Since: 2, State: api.Ended, Day: 11})
}

// change is one of a group.
type change struct {
	what  string
	taken bool
	do    func(g *grouped)
}

func wantChanges(t *testing.T, changes []change) {
	t.Helper()
	for _, c := range changes {
		g := exampleGroup(t)
		c.do(&g)
		wantGroup(t, c.what, g, c.taken)
	}
}

// P2209: the head, the tail, and how many records there are.
func TestGroupCounts(t *testing.T) {
	wantChanges(t, []change{
		{"fewer positions are told", false, func(g *grouped) { g.positions = 3 }},
		{"more positions are told", false, func(g *grouped) { g.positions = 5 }},
		{"no positions are told", false, func(g *grouped) { g.positions = 0 }},
		{"very many positions are told", false, func(g *grouped) { g.positions = math.MaxInt }},
		{"more positions than a number are told", false, func(g *grouped) { g.positions = -1 }},
		{"fewer entries are told", false, func(g *grouped) { g.entries = 4 }},
		{"more entries are told", false, func(g *grouped) { g.entries = 6 }},
		{"no entries are told", false, func(g *grouped) { g.entries = 0 }},
		{"too many entries are told", false, func(g *grouped) { g.entries = 1<<20 + 1 }},
		{"as many entries as may be are told", false, func(g *grouped) { g.entries = 1 << 20 }},
		{"more entries than a number are told", false, func(g *grouped) { g.entries = -1 }},
		{"no entries are there", false, func(g *grouped) { g.lines = nil }},
		{"no entries are there or told", true, func(g *grouped) { g.lines, g.entries = nil, 0 }},
		{"an empty record of entries", false, func(g *grouped) { g.lines, g.entries = [][]line{{}}, 0 }},
		{"an empty record of entries behind", false, func(g *grouped) { g.lines = append(g.lines, nil) }},
		{"an empty record of entries ahead", false, func(g *grouped) { g.lines = [][]line{nil, g.lines[0]} }},
		{"two short records of entries", false, func(g *grouped) { g.lines = [][]line{g.lines[0][:2], g.lines[0][2:]} }},
		{"a position is missing", false, func(g *grouped) { g.list = g.list[1:] }},
		{"a position is missing, and not told", false, func(g *grouped) { g.list, g.positions = g.list[:3], 3 }}, // an entry names it
		{"the head has a byte more", false, func(g *grouped) { g.head = "\x00" }},
		{"the tail has a byte more", false, func(g *grouped) { g.tail = "\x00" }},
		{"the entries have a byte more", false, func(g *grouped) { g.last = "\x00" }},
		{"the entries have one more than they tell", false, func(g *grouped) { g.counts = -1 }},
		{"the entries have one less than they tell", false, func(g *grouped) { g.counts = 1 }},
		{"the entries tell none", false, func(g *grouped) { g.counts = -5 }},
		{"today is too early for what is there", false, func(g *grouped) { g.today = 4 }},
		{"today is too late for what is there", false, func(g *grouped) { g.today = 6 }},
	})
	wantGroup(t, "nothing", grouped{}, true)
	wantGroup(t, "nothing on the last day", grouped{today: 1<<30 - 1}, true)
	wantGroup(t, "nothing behind the last day", grouped{today: 1<<30 + 1}, false)
	wantGroup(t, "nothing behind all numbers", grouped{today: -1}, false)
	wantGroup(t, "nothing but two entries", grouped{today: 1, entries: 1, lines: [][]line{{{0, 0, "EUR", 1}}}}, false)
}

// P2209: a head and records whose numbers are in another form than the shortest, or that are cut.
func TestGroupForms(t *testing.T) {
	records := exampleGroup(t).records()
	for n := range records {
		for cut := range len(records[n].Body) {
			spoilt := slices.Clone(records)
			spoilt[n].Body = records[n].Body[:cut]
			wantTellings(t, wantOpened(t, journalOf(spoilt...), 8), tellings(book.New()))
		}
	}
	long := func(number int, at ...int) {
		t.Helper()
		for _, place := range at {
			spoilt := slices.Clone(records)
			body := spoilt[number].Body
			if body[place] >= 128 {
				t.Fatalf("record %d, byte %d: %d", number, place, body[place])
			}
			spoilt[number].Body = slices.Concat(body[:place], []byte{body[place] | 128, 0}, body[place+1:])
			wantTellings(t, wantOpened(t, journalOf(spoilt...), 8), tellings(book.New()))
		}
	}
	long(0, 0, 1, 2)
	long(1, 0, 5, 6, 7, 8, 9, 10, 11)
	long(2, 0, 5, 6, 7, 8, 9, 10, 11)
	long(5, 0, 1, 2, 3, 7, 8, 9, 10)
}

// P2209: names.
func TestGroupNames(t *testing.T) {
	for n := range 4 {
		wantChanges(t, []change{
			{"another name", true, func(g *grouped) { g.list[n].name = "x" + strings.Repeat("_", 30) }},
			{"a long name", false, func(g *grouped) { g.list[n].name = "x" + strings.Repeat("_", 31) }},
			{"a capital name", false, func(g *grouped) { g.list[n].name = "A" }},
			{"a keyword", false, func(g *grouped) { g.list[n].name = "deal" }},
			{"no name", false, func(g *grouped) { g.list[n].name = "" }},
			{"the name of the next", false, func(g *grouped) { g.list[n].name = g.list[(n+1)%4].name }},
			{"the name of the one ahead", false, func(g *grouped) { g.list[n].name = g.list[(n+3)%4].name }},
			{"a byte more", false, func(g *grouped) { g.list[n].extra = "\x00" }},
		})
	}
}

// P2209: the numbers of positions that do not go on.
func TestGroupOfEnded(t *testing.T) {
	const gone, ends, faults = 0, 1, 2
	wantChanges(t, []change{
		{"dropped, with a first day", false, func(g *grouped) { g.list[gone].since = 1 }},
		{"dropped, ended", false, func(g *grouped) { g.list[gone].state = 1 }},
		{"dropped, faulted", false, func(g *grouped) { g.list[gone].state, g.list[gone].fault = 2, 1 }},
		{"dropped, with a fault", false, func(g *grouped) { g.list[gone].fault = 1 }},
		{"dropped, with a last day", false, func(g *grouped) { g.list[gone].on = 1 }},
		{"dropped, with an image", false, func(g *grouped) { g.list[gone].img = g.list[3].img }},
		{"dropped, with a state", false, func(g *grouped) { g.list[gone].saved = g.list[3].saved }},
		{"dropped twice", false, func(g *grouped) { g.list[gone].dropped = 2 }},
		{"not dropped", false, func(g *grouped) { g.list[gone].dropped = 0 }},
		{"ended, dropped", false, func(g *grouped) { g.list[ends].dropped = 1 }},
		{"faulted, dropped", false, func(g *grouped) { g.list[faults].dropped = 1 }},
		{"ended on its first day", true, func(g *grouped) { g.list[ends].since = 3 }},
		{"ended ahead of its first day", false, func(g *grouped) { g.list[ends].since = 4 }},
		{"ended on the first day", true, func(g *grouped) { g.list[ends].since, g.list[ends].on = 0, 0 }},
		{"ended on the last day", true, func(g *grouped) { g.list[ends].on = 4 }},
		{"ended today", false, func(g *grouped) { g.list[ends].on = 5 }},
		{"ended today, begun today", false, func(g *grouped) { g.list[ends].since, g.list[ends].on = 5, 5 }},
		{"ended far away", false, func(g *grouped) { g.list[ends].on = 1 << 30 }},
		{"ended behind all numbers", false, func(g *grouped) { g.list[ends].on = -1 }},
		{"ended, with a fault", false, func(g *grouped) { g.list[ends].fault = 1 }},
		{"ended, with an image", false, func(g *grouped) { g.list[ends].img = "x" }},
		{"ended, with a state", false, func(g *grouped) { g.list[ends].saved = "x" }},
		{"ended, with what runs", false, func(g *grouped) { g.list[ends].img, g.list[ends].saved = g.list[3].img, g.list[3].saved }},
		{"begun behind all numbers", false, func(g *grouped) { g.list[ends].since = -1 }},
		{"faulted by overflow", true, func(g *grouped) { g.list[faults].fault = 1 }},
		{"faulted by what is missing", true, func(g *grouped) { g.list[faults].fault = 3 }},
		{"faulted by nothing", false, func(g *grouped) { g.list[faults].fault = 0 }},
		{"faulted by another fault", false, func(g *grouped) { g.list[faults].fault = 4 }},
		{"faulted by no number", false, func(g *grouped) { g.list[faults].fault = -1 }},
		{"faulted today", false, func(g *grouped) { g.list[faults].on = 5 }},
		{"faulted on its first day", true, func(g *grouped) { g.list[faults].since = 4 }},
		{"faulted ahead of its first day", false, func(g *grouped) { g.list[faults].since, g.list[faults].on = 4, 3 }},
		{"faulted, with an image", false, func(g *grouped) { g.list[faults].img = g.list[3].img }},
		{"faulted, with a state", false, func(g *grouped) { g.list[faults].saved = g.list[3].saved }},
		{"in no state", false, func(g *grouped) { g.list[faults].state = 3 }},
		{"in no number's state", false, func(g *grouped) { g.list[faults].state = -1 }},
	})
}

// P2209: positions that go on.
func TestGroupOfRunning(t *testing.T) {
	const runs = 3
	p := longLived(9)
	put := func(g *grouped, since int, p api.Program, days int) {
		g.list[runs].since = since
		g.list[runs].img, g.list[runs].saved = running(t, p, days)
	}
	spoil := func(g *grouped, spoil func(s *api.State)) {
		s, _, _ := save.Decode(p, []byte(g.list[runs].saved))
		spoil(&s)
		b, e := save.Encode(p, s)
		if e != api.OK {
			t.Fatal(e)
		}
		g.list[runs].saved = string(b)
	}
	wantChanges(t, []change{
		{"begun today", true, func(g *grouped) { put(g, 5, p, 0) }},
		{"begun on the first day", true, func(g *grouped) { put(g, 0, p, 5) }},
		{"on its last day", true, func(g *grouped) { put(g, 0, longLived(5), 5) }},
		{"behind its last day", false, func(g *grouped) { put(g, 0, longLived(4), 5) }},
		{"begun tomorrow", false, func(g *grouped) { put(g, 6, p, 0) }},
		{"one day behind", false, func(g *grouped) { put(g, 2, p, 2) }},
		{"one day ahead", false, func(g *grouped) { put(g, 2, p, 4) }},
		{"of other days", false, func(g *grouped) { g.list[runs].since = 3 }},
		{"with a fault", false, func(g *grouped) { g.list[runs].fault = 1 }},
		{"with a day", false, func(g *grouped) { g.list[runs].on = 3 }},
		{"ended", false, func(g *grouped) { g.list[runs].state, g.list[runs].on = 1, 3 }},
		{"faulted", false, func(g *grouped) { g.list[runs].state, g.list[runs].fault, g.list[runs].on = 2, 1, 3 }},
		{"dropped", false, func(g *grouped) { g.list[runs].since, g.list[runs].dropped = 0, 1 }},
		{"without an image", false, func(g *grouped) { g.list[runs].img = "" }},
		{"without a state", false, func(g *grouped) { g.list[runs].saved = "" }},
		{"without both", false, func(g *grouped) { g.list[runs].img, g.list[runs].saved = "", "" }},
		{"with another program's image", false, func(g *grouped) { g.list[runs].img, _ = running(t, longLived(8), 3) }},
		{"with an image's beginning", false, func(g *grouped) { g.list[runs].img = g.list[runs].img[:40] }},
		{"with a spoilt image", false, func(g *grouped) { g.list[runs].img = g.list[runs].img + "\x00" }},
		{"with a spoilt state", false, func(g *grouped) { g.list[runs].saved = g.list[runs].saved + "\x00" }},
		{"with both the other way about", false, func(g *grouped) {
			g.list[runs].img, g.list[runs].saved = g.list[runs].saved, g.list[runs].img
		}},
		{"with another number of steps", true, func(g *grouped) { spoil(g, func(s *api.State) { s.Steps = 1 }) }},
		{"with a state that has faulted", false, func(g *grouped) { spoil(g, func(s *api.State) { s.Fault, s.Day = api.NoObs, 2 }) }},
	})
}

// P2209: an image that is canonical, and that verify does not take.
func TestGroupOfUnverified(t *testing.T) {
	p := longLived(9)
	g := exampleGroup(t)
	put := func() {
		img := string(made(t, p))
		// Three days of three instructions each were run.
		g.list[3].img, g.list[3].saved = img, sealed("PAYSAVE1", img[len(img)-4:], "\x03\x09\x00\x00", "", "")
	}
	put()
	wantGroup(t, "an image that verify takes", g, true)
	p.Stack = 3
	put()
	wantGroup(t, "an image that verify refuses", g, false)
}

// P2209: entries.
func TestGroupEntries(t *testing.T) {
	const last = 4
	wantChanges(t, []change{
		{"on the last day, all of them", true, func(g *grouped) {
			for n := range g.lines[0] {
				g.lines[0][n].on = 4
			}
		}},
		{"today", false, func(g *grouped) { g.lines[0][last].on = 5 }},
		{"on no number's day", false, func(g *grouped) { g.lines[0][last].on = -1 }},
		{"a day falls", false, func(g *grouped) { g.lines[0][last].on = 2 }},
		{"the first day is late", false, func(g *grouped) { g.lines[0][0].on = 1 }},
		{"ahead of the position's first day", true, func(g *grouped) { g.lines[0][0].number = 3 }},
		{"behind the position's last day", true, func(g *grouped) { g.lines[0][last].number = 1 }},
		{"of a position that is not there", false, func(g *grouped) { g.lines[0][last].number = 4 }},
		{"of no number's position", false, func(g *grouped) { g.lines[0][last].number = -1 }},
		{"of no currency", false, func(g *grouped) { g.lines[0][1].cur = "" }},
		{"of a short currency", false, func(g *grouped) { g.lines[0][1].cur = "EU" }},
		{"of a long currency", false, func(g *grouped) { g.lines[0][1].cur = "EURO" }},
		{"of a small currency", false, func(g *grouped) { g.lines[0][1].cur = "EUr" }},
		{"of a currency with a digit", false, func(g *grouped) { g.lines[0][1].cur = "E1R" }},
		{"of an unknown currency", true, func(g *grouped) { g.lines[0][1].cur = "QQQ" }},
	})
}

// P2209: ledgers of one record, of a full one, of more.
func TestGroupLedgers(t *testing.T) {
	lines := func(counts ...int) grouped {
		g := grouped{today: 3000, positions: 1, list: []written{{name: "a", dropped: 1}}}
		for _, count := range counts {
			var list []line
			for range count {
				list = append(list, line{g.entries / 7, 0, "EUR", g.entries})
				g.entries++
			}
			g.lines = append(g.lines, list)
		}
		return g
	}
	for _, c := range []struct {
		counts []int
		taken  bool
	}{
		{[]int{4096}, true}, {[]int{4095}, true}, {[]int{4097}, false}, {[]int{4096, 1}, true}, {[]int{4096, 0}, false}, {[]int{4095, 1}, false}, {[]int{4095, 2}, false}, {[]int{1, 4096}, false},
		{[]int{4096, 4096}, true}, {[]int{4096, 4096, 5}, true}, {[]int{4096, 4095, 1}, false}, {[]int{4096, 4097}, false}, {[]int{8192}, false},
	} {
		wantGroup(t, fmt.Sprint(c.counts), lines(c.counts...), c.taken)
	}
	// A day that falls from one record to the next.
	g := lines(4096, 4096)
	g.lines[1][0].on = g.lines[0][4095].on - 1
	wantGroup(t, "a day falls between records", g, false)
}

// P2208: records that stand elsewhere than in their order.
func TestGroupOrder(t *testing.T) {
	records := exampleGroup(t).records()
	whole := len(journalOf(records...))
	empty := tellings(book.New())
	for n := range records {
		for k := range n {
			swapped := slices.Clone(records)
			swapped[n], swapped[k] = swapped[k], swapped[n]
			if n < 5 && k > 0 {
				// Positions in another order are another book.
				wantOpened(t, journalOf(swapped...), whole)
				continue
			}
			wantTellings(t, wantOpened(t, journalOf(swapped...), 8), empty)
		}
		doubled := slices.Insert(slices.Clone(records), n, records[n])
		size := 8
		if n == len(records)-1 {
			size = whole
		}
		wantOpened(t, journalOf(doubled...), size)
		for _, kind := range []int{1, 2, 3, 4, 5, 6, 7, 8, 255} {
			other := slices.Clone(records)
			other[n].Kind = kind
			if kind != records[n].Kind {
				wantTellings(t, wantOpened(t, journalOf(other...), 8), empty)
			}
		}
		for _, between := range []api.Record{record(3, "\x00"), record(2, "\x04ends"), record(1, text("x")+text(string(made(t, exampleQ()))))} {
			if n == 0 {
				continue
			}
			wantTellings(t, wantOpened(t, journalOf(slices.Insert(slices.Clone(records), n, between)...), 8), empty)
		}
		holdOpen(t, journalOf(doubled...))
	}
	// Behind a group no other one can stand, and none behind other records.
	again := append(slices.Clone(records), records...)
	wantOpened(t, journalOf(again...), whole)
	behind := append([]api.Record{record(3, "\x00")}, records...)
	wantTellings(t, wantOpened(t, journalOf(behind...), len(journalOf(behind[0]))), telling{today: 1, journal: journalOf(behind[0])})
}
