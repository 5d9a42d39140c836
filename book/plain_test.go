package book_test

import (
	"bytes"
	"encoding/binary"
	"hash/crc32"
	"maps"
	"math"
	"math/big"
	"slices"
	"testing"

	"payoff/api"
	"payoff/book"
	"payoff/image"
	"payoff/journal"
	"payoff/lex"
	"payoff/machine"
	"payoff/save"
	"payoff/verify"
)

// The plain reading of the chapter, promise by promise, to hold the calls against: a book that keeps what was told, and lives each position's life anew whenever it is asked.

// plainPosition: what was taken in, or what a group said of it.
type plainPosition struct {
	api.Position // as it was then
	dropped      bool
	program      api.Program
	from         api.State // of one that went on then
}

type plainBook struct {
	today     int
	rows      map[int]map[string]int
	positions []*plainPosition
	told      []api.Entry // of a group
	gone      []api.Entry // of positions that were dropped since
	records   []api.Record
}

func plainNew() *plainBook { return &plainBook{rows: map[int]map[string]int{}} }

// life: what a position has come to, and its entries since it was taken in, or since the group.
func (b *plainBook) life(p *plainPosition) (api.Position, api.State, []api.Entry) {
	now := p.Position
	if p.dropped || now.State != api.Running {
		return now, api.State{}, nil
	}
	m, _ := machine.Resume(p.program, p.from)
	var entries []api.Entry
	for day := p.Since + p.from.Today; day < b.today && now.State == api.Running; day++ {
		var row []api.Cell
		for _, name := range p.program.Names {
			v, has := b.rows[day][name]
			row = append(row, api.Cell{Has: has, V: v})
		}
		flows, fault, _ := m.Day(row)
		for _, f := range flows {
			entries = append(entries, api.Entry{Day: day, Name: p.Name, Cur: f.Cur, Amount: f.Amount})
		}
		if fault != api.NoFault {
			now.State, now.Fault, now.Day = api.Faulted, fault, day
		} else if m.Over() {
			now.State, now.Day = api.Ended, day
		}
	}
	return now, m.State(), entries
}

func (b *plainBook) goesOn(p *plainPosition) bool {
	now, _, _ := b.life(p)
	return !p.dropped && now.State == api.Running
}

func (b *plainBook) goOn() int {
	count := 0
	for _, p := range b.positions {
		if b.goesOn(p) {
			count++
		}
	}
	return count
}

func (b *plainBook) number(name string) int {
	return slices.IndexFunc(b.positions, func(p *plainPosition) bool { return p.Name == name })
}

// ledger: on one day in the order of the positions.
func (b *plainBook) ledger() []api.Entry {
	since := slices.Clone(b.gone)
	for _, p := range b.positions {
		_, _, entries := b.life(p)
		since = append(since, entries...)
	}
	slices.SortStableFunc(since, func(x, y api.Entry) int {
		if x.Day != y.Day {
			return x.Day - y.Day
		}
		return b.number(x.Name) - b.number(y.Name)
	})
	return slices.Concat(b.told, since)
}

func (b *plainBook) standing() []api.Position {
	var list []api.Position
	for _, p := range b.positions {
		if now, _, _ := b.life(p); !p.dropped {
			list = append(list, now)
		}
	}
	return list
}

// balance: P2206.
func (b *plainBook) balance(name string) ([]api.Total, api.Fault, api.Errno) {
	if b.number(name) < 0 {
		return nil, api.NoFault, api.ErrUnknown
	}
	sums := map[string]*big.Int{}
	for _, entry := range b.ledger() {
		if entry.Name != name {
			continue
		}
		if sums[entry.Cur] == nil {
			sums[entry.Cur] = new(big.Int)
		}
		if !sums[entry.Cur].Add(sums[entry.Cur], big.NewInt(int64(entry.Amount))).IsInt64() {
			return nil, api.Overflow, api.OK
		}
	}
	var totals []api.Total
	for _, cur := range slices.Sorted(maps.Keys(sums)) {
		totals = append(totals, api.Total{Cur: cur, Amount: int(sums[cur].Int64())})
	}
	return totals, api.NoFault, api.OK
}

// add: P2202, but for the journal's length.
func (b *plainBook) add(name string, img []byte) api.Errno {
	switch {
	case !lex.Small(name):
		return api.ErrArg
	case b.number(name) >= 0:
		return api.ErrKnown
	case b.goOn() >= 256:
		return api.ErrFull
	}
	p, _, e := image.Decode(img)
	if e != api.OK {
		return e
	}
	if _, _, _, e := verify.Verify(p); e != api.OK {
		return e
	}
	b.records = append(b.records, record(1, text(name)+text(string(img))))
	b.positions = append(b.positions, &plainPosition{Position: api.Position{Name: name, Since: b.today}, program: p, from: api.State{Cells: make([]int, p.Cells)}})
	return api.OK
}

// drop: P2203, but for the journal's length.
func (b *plainBook) drop(name string) api.Errno {
	at := b.number(name)
	if at < 0 || b.positions[at].dropped {
		return api.ErrUnknown
	}
	b.records = append(b.records, record(2, text(name)))
	_, _, entries := b.life(b.positions[at])
	b.gone = append(b.gone, entries...)
	b.positions[at] = &plainPosition{Position: api.Position{Name: name}, dropped: true}
	return api.OK
}

// day: P2204, but for the journal's length.
func (b *plainBook) day(known []api.Pair) ([]api.Entry, api.Errno) {
	row := map[string]int{}
	for _, pair := range known {
		row[pair.Name] = pair.V
	}
	if len(row) < len(known) || slices.ContainsFunc(known, func(pair api.Pair) bool { return !lex.Capital(pair.Name) }) {
		return nil, api.ErrName
	}
	body := plainDay(known)
	if len(body) > 4194304 {
		return nil, api.ErrLong
	}
	if b.today == 1<<30 {
		return nil, api.ErrFull
	}
	before := len(b.ledger())
	b.rows[b.today] = row
	b.today++
	after := b.ledger()
	if len(after) > 1<<20 {
		b.today--
		return nil, api.ErrFull
	}
	b.records = append(b.records, record(3, body))
	return after[before:], api.OK
}

func plainDay(known []api.Pair) string {
	body := uints(len(known))
	for _, pair := range known {
		body += text(pair.Name) + number(pair.V)
	}
	return body
}

// group: the records of the book's group.
func (b *plainBook) group() []api.Record {
	ledger := b.ledger()
	list := []api.Record{record(4, uints(b.today, len(b.positions), len(ledger)))}
	for _, p := range b.positions {
		now, state, _ := b.life(p)
		if p.dropped {
			list = append(list, record(5, text(p.Name)+"\x00\x00\x00\x00\x01\x00\x00"))
			continue
		}
		img, saved := []byte(nil), []byte(nil)
		if now.State == api.Running {
			img, _ = image.Encode(p.program)
			saved, _ = save.Encode(p.program, state)
		}
		list = append(list, record(5, text(p.Name)+uints(now.Since, now.State, int(now.Fault), now.Day, 0)+text(string(img))+text(string(saved))))
	}
	for len(ledger) > 0 {
		some := ledger[:min(len(ledger), 4096)]
		body := uints(len(some))
		for _, entry := range some {
			body += uints(entry.Day, b.number(entry.Name)) + text(entry.Cur) + number(entry.Amount)
		}
		list = append(list, record(6, body))
		ledger = ledger[len(some):]
	}
	return append(list, record(7, ""))
}

func (b *plainBook) compact() api.Errno {
	b.records = b.group()
	return api.OK
}

// plainOpen: P2208.
func plainOpen(b []byte) (*plainBook, int, api.Errno) {
	j, size, e := journal.Open(b)
	if e != api.OK {
		return nil, 0, e
	}
	opened, records := plainNew(), recordsOf(j)
	if len(records) > 0 && records[0].Kind == 4 {
		group, count := plainGroup(records)
		if group == nil {
			return opened, 8, api.OK
		}
		opened, records = group, records[count:]
	}
	for _, r := range records {
		if !opened.play(r) {
			break
		}
	}
	if size > 0 {
		size = len(journalOf(opened.records...))
	}
	return opened, size, api.OK
}

// play: a record that a call would journal, just so.
func (b *plainBook) play(r api.Record) bool {
	s := &scan{left: r.Body}
	switch r.Kind {
	case 1:
		name, img := s.text(), s.text()
		return s.said(r, text(name)+text(img)) && b.add(name, []byte(img)) == api.OK
	case 2:
		name := s.text()
		return s.said(r, text(name)) && b.drop(name) == api.OK
	case 3:
		var known []api.Pair
		for count := s.uint(); len(known) < count && !s.bad; {
			name := s.text()
			known = append(known, api.Pair{Name: name, V: s.int()})
		}
		if !s.said(r, plainDay(known)) {
			return false
		}
		_, e := b.day(known)
		return e == api.OK
	}
	return false
}

// plainGroup: the book that a group says, with which records begin, and how many these are; nil, if it is not as P2209 says.
func plainGroup(records []api.Record) (*plainBook, int) {
	b := plainNew()
	s := &scan{left: records[0].Body}
	today, positions, entries := s.uint(), s.uint(), s.uint()
	if !s.said(records[0], uints(today, positions, entries)) || today > 1<<30 || entries > 1<<20 || positions > len(records) {
		return nil, 0
	}
	b.today = today
	lines := (entries + 4095) / 4096
	count := 1 + positions + lines + 1
	if len(records) < count {
		return nil, 0
	}
	for _, r := range records[1 : 1+positions] {
		if r.Kind != 5 || !b.plainRecord5(r) {
			return nil, 0
		}
	}
	for n, r := range records[1+positions : count-1] {
		if r.Kind != 6 || !b.plainRecord6(r, min(4096, entries-4096*n)) {
			return nil, 0
		}
	}
	if tail := records[count-1]; tail.Kind != 7 || len(tail.Body) > 0 || b.goOn() > 256 {
		return nil, 0
	}
	b.records = slices.Clone(records[:count])
	return b, count
}

func (b *plainBook) plainRecord5(r api.Record) bool {
	s, p := &scan{left: r.Body}, &plainPosition{}
	p.Name, p.Since, p.State, p.Fault, p.Day = s.text(), s.uint(), s.uint(), api.Fault(s.uint()), s.uint()
	dropped, img, state := s.uint(), s.text(), s.text()
	if !s.said(r, text(p.Name)+uints(p.Since, p.State, int(p.Fault), p.Day, dropped)+text(img)+text(state)) {
		return false
	}
	if !lex.Small(p.Name) || b.number(p.Name) >= 0 || dropped > 1 {
		return false
	}
	p.dropped = dropped == 1
	b.positions = append(b.positions, p)
	if p.dropped {
		return p.Since == 0 && p.State == 0 && p.Fault == 0 && p.Day == 0 && img == "" && state == ""
	}
	if p.Since > b.today {
		return false
	}
	switch p.State {
	case 0:
		return p.Fault == 0 && p.Day == 0 && p.plainResume(img, state, b.today)
	case 1:
		return p.Fault == 0 && p.Since <= p.Day && p.Day < b.today && img == "" && state == ""
	case 2:
		return p.Fault >= 1 && p.Fault <= 3 && p.Since <= p.Day && p.Day < b.today && img == "" && state == ""
	}
	return false
}

// plainResume: a position that goes on.
func (p *plainPosition) plainResume(img, state string, today int) bool {
	program, _, e := image.Decode([]byte(img))
	if e != api.OK {
		return false
	}
	if _, _, _, e := verify.Verify(program); e != api.OK {
		return false
	}
	s, _, e := save.Decode(program, []byte(state))
	if e != api.OK {
		return false
	}
	p.program, p.from = program, s
	return s.Today == today-p.Since && s.Fault == 0 && s.Today <= program.Horizon
}

func (b *plainBook) plainRecord6(r api.Record, count int) bool {
	s := &scan{left: r.Body}
	said := uints(count)
	if s.uint() != count {
		return false
	}
	for range count {
		day, at, cur, amount := s.uint(), s.uint(), s.text(), s.int()
		said += uints(day, at) + text(cur) + number(amount)
		if s.bad || day >= b.today || at >= len(b.positions) || !lex.Currency(cur) {
			return false
		}
		if len(b.told) > 0 && b.told[len(b.told)-1].Day > day {
			return false
		}
		b.told = append(b.told, api.Entry{Day: day, Name: b.positions[at].Name, Cur: cur, Amount: amount})
	}
	return s.said(r, said)
}

// What bodies are made of, by the library's means.

func uints(list ...int) string {
	var b []byte
	for _, x := range list {
		b = binary.AppendUvarint(b, uint64(x))
	}
	return string(b)
}

func number(v int) string { return string(binary.AppendVarint(nil, int64(v))) }

func text(s string) string { return uints(len(s)) + s }

// scan reads them; whether they were in their one form is asked by writing them again.
type scan struct {
	left []byte
	bad  bool
}

func (s *scan) uint() int {
	x, size := binary.Uvarint(s.left)
	if size <= 0 || x > math.MaxInt {
		s.bad = true
		return 0
	}
	s.left = s.left[size:]
	return int(x)
}

func (s *scan) int() int {
	v, size := binary.Varint(s.left)
	if size <= 0 {
		s.bad = true
		return 0
	}
	s.left = s.left[size:]
	return int(v)
}

func (s *scan) text() string {
	size := s.uint()
	if s.bad || size > len(s.left) {
		s.bad = true
		return ""
	}
	said := string(s.left[:size])
	s.left = s.left[size:]
	return said
}

// said: a record says just this.
func (s *scan) said(r api.Record, body string) bool { return !s.bad && body == string(r.Body) }

func record(kind int, body string) api.Record { return api.Record{Kind: kind, Body: []byte(body)} }

// journalOf: the bytes of a journal of records.
func journalOf(records ...api.Record) []byte {
	j := journal.New()
	for _, r := range records {
		j.Append(r)
	}
	return j.Bytes()
}

func recordsOf(j *journal.Journal) []api.Record {
	var list []api.Record
	for n := range j.Count() {
		r, _ := j.Record(n)
		list = append(list, r)
	}
	return list
}

// hold: a book tells what the plain one does, also when it is asked again.
func hold(t *testing.T, got *book.Book, want *plainBook) {
	t.Helper()
	for range 2 {
		if got.Today() != want.today {
			t.Fatalf("Today() = %d, want %d", got.Today(), want.today)
		}
		if list, wanted := got.Positions(), want.standing(); !slices.Equal(list, wanted) {
			t.Fatalf("Positions() = %+v, want %+v", list, wanted)
		}
		if list, wanted := got.Ledger(), want.ledger(); !slices.Equal(list, wanted) {
			t.Fatalf("Ledger() = %+v, want %+v", list, wanted)
		}
		if b, wanted := got.Journal(), journalOf(want.records...); !bytes.Equal(b, wanted) {
			t.Fatalf("Journal() = %q, want %q", b, wanted)
		}
	}
	names := []string{"none", "", "A", "deal"}
	for _, p := range want.positions {
		names = append(names, p.Name)
	}
	for _, name := range names {
		holdBalance(t, got, want, name)
	}
}

func holdBalance(t *testing.T, got *book.Book, want *plainBook, name string) {
	t.Helper()
	totals, fault, e := got.Balance(name)
	wantTotals, wantFault, wantE := want.balance(name)
	if !slices.Equal(totals, wantTotals) || fault != wantFault || e != wantE {
		t.Fatalf("Balance(%q) = %v, %d, %d, want %v, %d, %d", name, totals, fault, e, wantTotals, wantFault, wantE)
	}
}

// holdOpen: Open gives the book that the words say; it and the plain one are told.
func holdOpen(t *testing.T, b []byte) (*book.Book, *plainBook) {
	t.Helper()
	got, size, e := book.Open(b)
	want, wantSize, wantE := plainOpen(b)
	if size != wantSize || e != wantE || (got == nil) != (want == nil) {
		t.Fatalf("Open(%q) = %d, %d, want %d, %d", b, size, e, wantSize, wantE)
	}
	if got != nil {
		hold(t, got, want)
	}
	return got, want
}

// sealed: bytes under a mark, with the sections 1, 2, ..
func sealed(mark string, bodies ...string) string {
	b := mark + uints(len(bodies))
	for n, body := range bodies {
		b += uints(n+1) + text(body)
	}
	return string(binary.LittleEndian.AppendUint32([]byte(b), crc32.ChecksumIEEE([]byte(b))))
}
