package desk_test

import (
	"fmt"
	"maps"
	"math/big"
	"regexp"
	"slices"
	"strconv"
	"strings"
	"testing"

	"payoff/api"
	"payoff/asm"
	"payoff/book"
	"payoff/check"
	"payoff/dag"
	"payoff/desk"
	"payoff/image"
	"payoff/joint"
	"payoff/journal"
	"payoff/legs"
	"payoff/lex"
	"payoff/lower"
	"payoff/machine"
	"payoff/save"
	"payoff/table"
	"payoff/tree"
	"payoff/verify"
)

// The plain reading of the chapter, to hold the calls against: lines are read by patterns; a program is kept as an image, a machine as its program and the rows of all its days, a book as what has happened to it, and whatever is asked of them is worked out anew.

const (
	aName   = `([a-z][a-z0-9_]{0,30})`
	aNumber = `(0|[1-9][0-9]{0,8})`
	anObs   = `([A-Z][A-Z0-9_]{0,30})`
	aPair   = `[A-Z][A-Z0-9_]{0,30}=(?:0|-?[1-9][0-9]{0,8})`
)

// patterns: a line of each command, without the blanks at its ends; a blank stands for one or more.
var patterns = map[string]*regexp.Regexp{
	"compile":  pattern(`compile N as N(?: (nofold))?(?: (noshare))?`),
	"assemble": pattern(`assemble N as N`),
	"table":    pattern(`table N as N`),
	"print":    pattern(`print N`),
	"list":     pattern(`list N`),
	"measure":  pattern(`measure N`),
	"run":      pattern(`run N on N`),
	"mean":     pattern(`mean N on N`),
	"needs":    pattern(`needs N`),
	"proof":    pattern(`proof N`),
	"join":     pattern(`join ((?:` + aName[1:len(aName)-1] + ` )+)as N`),
	"later":    pattern(`later N D as N`),
	"rename":   pattern(`rename N O O as N`),
	"start":    pattern(`start N on N as N`),
	"step":     pattern(`step N(?: D)?`),
	"freeze":   pattern(`freeze N as N`),
	"thaw":     pattern(`thaw N N on N as N`),
	"fan":      pattern(`fan N on ((?:` + aName[1:len(aName)-1] + ` )+)by D`),
	"open":     pattern(`open N as N`),
	"drop":     pattern(`drop N`),
	"day":      pattern(`day((?: ` + aPair + `)*)`),
	"book":     pattern(`book`),
	"balance":  pattern(`balance N`),
	"ledger":   pattern(`ledger`),
	"cut":      pattern(`cut D`),
	"journal":  pattern(`journal`),
	"compact":  pattern(`compact`),
}

func pattern(form string) *regexp.Regexp {
	marks := regexp.MustCompile(`\b[NDO]\b| `)
	return regexp.MustCompile(`\A` + marks.ReplaceAllStringFunc(form, func(mark string) string {
		return map[string]string{"N": aName, "D": aNumber, "O": anObs, " ": " +"}[mark]
	}) + `\z`)
}

func plainName(word string) bool {
	return regexp.MustCompile(`\A`+aName+`\z`).MatchString(word) && !lex.Keyword(word) && word != "as" && word != "on"
}

// plainLife: a machine: its program, and the rows of all its days, of which some are gone.
type plainLife struct {
	img  string
	rows [][]api.Cell // by the program's names
	gone int
}

type plainDesk struct {
	texts  map[string]string
	tables map[string]api.Table
	images map[string]string
	lives  map[string]plainLife
	frozen map[string]plainLife
	events []func(*book.Book) *book.Book // what has happened to the book
}

// plainNew: P2301.
func plainNew(files []api.File) (*plainDesk, int, api.Errno) {
	d := &plainDesk{map[string]string{}, map[string]api.Table{}, map[string]string{}, map[string]plainLife{}, map[string]plainLife{}, nil}
	for n, f := range files {
		for _, other := range files[:n] {
			if other.Name == f.Name {
				return nil, n, api.ErrArg
			}
		}
		if !plainName(f.Name) {
			return nil, n, api.ErrArg
		}
		if len(f.Text) > 1048576 {
			return nil, n, api.ErrLong
		}
		d.texts[f.Name] = f.Text
	}
	return d, 0, api.OK
}

// plainRead: a line's command, and what it says; none, if it has none.
func plainRead(line string) (string, []string, api.Errno) {
	if len(line) > 200 {
		return "", nil, api.ErrLong
	}
	line = strings.Trim(line, " ")
	if line == "" || line[0] == '#' {
		return "", nil, api.OK
	}
	word, _, _ := strings.Cut(line, " ")
	p := patterns[word]
	if p == nil {
		return "", nil, api.ErrCommand
	}
	groups := p.FindStringSubmatch(line)
	if groups == nil {
		return "", nil, api.ErrCommand
	}
	for n, group := range groups[1:] {
		if word == "day" || word == "compile" && n >= 2 {
			continue
		}
		for _, part := range strings.Fields(group) {
			if part[0] >= 'a' && !plainName(part) {
				return "", nil, api.ErrCommand
			}
		}
	}
	return word, groups[1:], api.OK
}

// do: P2302.
func (d *plainDesk) do(line string) ([]string, api.Errno) {
	word, said, e := plainRead(line)
	if e != api.OK || word == "" {
		return nil, e
	}
	var told strings.Builder
	if e := d.command(&told, word, said); e != api.OK {
		return []string{fmt.Sprintf("refused %d", e)}, api.OK
	}
	return strings.Split(told.String(), "\n")[:strings.Count(told.String(), "\n")], api.OK
}

// there: whether things are there; of which kinds a letter each tells.
func (d *plainDesk) there(kinds string, names ...string) bool {
	all := true
	for n, kind := range kinds {
		var has bool
		switch kind {
		case 'F':
			_, has = d.texts[names[n]]
		case 'T':
			_, has = d.tables[names[n]]
		case 'P':
			_, has = d.images[names[n]]
		case 'M':
			_, has = d.lives[names[n]]
		case 'Z':
			_, has = d.frozen[names[n]]
		}
		all = all && has
	}
	return all
}

// asked: what must be there for a command.
func asked(word string, said []string) (string, []string) {
	kinds := map[string]string{
		"compile": "F", "assemble": "F", "table": "F", "print": "F", "measure": "F", "mean": "FT",
		"list": "P", "run": "PT", "needs": "P", "proof": "P", "later": "P", "rename": "P", "start": "PT", "open": "P",
		"step": "M", "freeze": "M", "thaw": "PZT",
	}[word]
	switch word {
	case "join":
		said = strings.Fields(said[0])
		kinds = strings.Repeat("P", len(said))
	case "fan":
		said = append([]string{said[0]}, strings.Fields(said[1])...)
		kinds = "P" + strings.Repeat("T", len(said)-1)
	}
	return kinds, said
}

func (d *plainDesk) command(told *strings.Builder, word string, said []string) api.Errno {
	if kinds, names := asked(word, said); !d.there(kinds, names...) {
		return 222
	}
	switch word {
	case "compile", "assemble", "table", "print", "measure", "mean":
		return d.ofText(told, word, said)
	case "list", "run", "needs", "proof", "join", "later", "rename", "fan":
		return d.ofProgram(told, word, said)
	case "start", "step", "freeze", "thaw":
		return d.ofMachine(told, word, said)
	}
	return d.ofBook(told, word, said)
}

func numbersOf(m api.Measure) string {
	return strings.Trim(fmt.Sprint(m), "{}")
}

// unread: how a deal's text is reported that has no image; none, if it has one.
func unread(name, text string) string {
	d, place, e := tree.Parse(text)
	switch {
	case len(text) > 65536:
		return name + " too long\n"
	case e != api.OK:
		return fmt.Sprintf("%s syntax %d\n", name, place)
	}
	if path, e := check.Check(d); e != api.OK {
		return name + " type " + strings.Trim(fmt.Sprint(path), "[]") + "\n"
	}
	if m, _ := check.Measure(d); check.Within(m) != api.OK {
		return name + " limit " + numbersOf(m) + "\n"
	}
	return ""
}

func (d *plainDesk) put(told *strings.Builder, name string, p api.Program) {
	b, _ := image.Encode(p)
	d.images[name] = string(b)
	fmt.Fprintf(told, "%s %d bytes\n", name, len(b))
}

func (d *plainDesk) program(name string) api.Program {
	p, _, _ := image.Decode([]byte(d.images[name]))
	return p
}

func (d *plainDesk) ofText(told *strings.Builder, word string, said []string) api.Errno {
	text := d.texts[said[0]]
	parsed, place, e := tree.Parse(text)
	switch word {
	case "compile":
		if report := unread(said[1], text); report != "" {
			told.WriteString(report)
			return api.OK
		}
		actions, cells, _ := legs.Unroll(parsed)
		m, _ := check.Measure(parsed)
		form, _ := dag.Norm(parsed.Names, actions, cells, m.Horizon, said[2] == "")
		p, _ := lower.Lower(form, said[3] == "")
		d.put(told, said[1], p)
	case "assemble":
		p, line, e := asm.Parse(text)
		_, _, _, f := verify.Verify(p)
		if e != api.OK {
			fmt.Fprintf(told, "%s line %d refused %d\n", said[1], line, e)
		} else if f != api.OK {
			fmt.Fprintf(told, "%s refused %d\n", said[1], f)
		} else {
			d.put(told, said[1], p)
		}
	case "table":
		t, place, e := table.Parse(text)
		if e != api.OK {
			fmt.Fprintf(told, "%s place %d refused %d\n", said[1], place, e)
			return api.OK
		}
		d.tables[said[1]] = t
		fmt.Fprintf(told, "%s %d rows\n", said[1], len(t.Rows))
	case "print", "measure":
		if e != api.OK {
			fmt.Fprintf(told, "place %d refused %d\n", place, e)
			return api.OK
		}
		if word == "print" {
			printed, e := tree.Print(parsed)
			told.WriteString(printed)
			return e
		}
		m, e := check.Measure(parsed)
		fmt.Fprintf(told, "measure %s\n", numbersOf(m))
		return e
	case "mean":
		if report := unread(said[0], text); report != "" {
			told.WriteString(report)
			return api.OK
		}
		actions, cells, _ := legs.Unroll(parsed)
		rows, _ := table.Bind(d.tables[said[1]], parsed.Names)
		out, _ := legs.Play(actions, cells, rows)
		tellOutcome(told, out)
	}
	return api.OK
}

var faultNames = map[api.Fault]string{api.Overflow: "overflow", api.DivZero: "zero", api.NoObs: "missing"}

func tellFlows(told *strings.Builder, flows []api.Flow) {
	for _, f := range flows {
		fmt.Fprintf(told, "%d %s %d\n", f.Day, f.Cur, f.Amount)
	}
}

func tellOutcome(told *strings.Builder, out api.Outcome) {
	tellFlows(told, out.Flows)
	if out.Fault == api.NoFault {
		told.WriteString("done\n")
		return
	}
	fmt.Fprintf(told, "fault %s on day %d\n", faultNames[out.Fault], out.Day)
}

// tellSums: what amounts come to, added up in their order.
func tellSums(told *strings.Builder, flows []api.Flow) {
	sums := map[string]*big.Int{}
	for _, f := range flows {
		if sums[f.Cur] == nil {
			sums[f.Cur] = new(big.Int)
		}
		if !sums[f.Cur].Add(sums[f.Cur], big.NewInt(int64(f.Amount))).IsInt64() {
			told.WriteString("overflow\n")
			return
		}
	}
	for _, cur := range slices.Sorted(maps.Keys(sums)) {
		fmt.Fprintf(told, "%s %d\n", cur, sums[cur])
	}
}

// ran: a program over a table.
func ran(p api.Program, t api.Table) api.Outcome {
	rows, _ := table.Bind(t, p.Names)
	out, _ := machine.Run(p, rows)
	return out
}

func (d *plainDesk) ofProgram(told *strings.Builder, word string, said []string) api.Errno {
	p := d.program(said[0])
	switch word {
	case "list":
		text, _ := asm.Print(p)
		told.WriteString(text)
	case "run":
		tellOutcome(told, ran(p, d.tables[said[1]]))
	case "needs":
		tellNeeds(told, p)
	case "proof":
		proof, _, _, _ := verify.Verify(p)
		fmt.Fprintf(told, "stack %d fuel %d back %d\n", proof.Stack, proof.Fuel, proof.Back)
	case "fan":
		return d.tellFan(told, p, strings.Fields(said[1]), said[2])
	}
	return d.made(told, p, word, said)
}

// made: what becomes of programs that are put together.
func (d *plainDesk) made(told *strings.Builder, p api.Program, word string, said []string) api.Errno {
	switch word {
	case "join":
		var ps []api.Program
		for _, name := range strings.Fields(said[0]) {
			ps = append(ps, d.program(name))
		}
		return d.putIf(told, said[1])(joint.Join(ps))
	case "later":
		days, _ := strconv.Atoi(said[1])
		return d.putIf(told, said[2])(joint.Later(p, days))
	case "rename":
		return d.putIf(told, said[3])(joint.Rename(p, said[1], said[2]))
	}
	return api.OK
}

func (d *plainDesk) putIf(told *strings.Builder, name string) func(p api.Program, e api.Errno) api.Errno {
	return func(p api.Program, e api.Errno) api.Errno {
		if e == api.OK {
			d.put(told, name, p)
		}
		return e
	}
}

func tellNeeds(told *strings.Builder, p api.Program) {
	var lines []string
	for _, s := range p.Days {
		for _, i := range s.Code {
			if i.Op == api.OpObs {
				lines = append(lines, fmt.Sprintf("%06d %s", s.Day-i.B, p.Names[i.A]))
			}
		}
	}
	slices.Sort(lines)
	for _, line := range slices.Compact(lines) {
		day, name, _ := strings.Cut(line, " ")
		n, _ := strconv.Atoi(day)
		fmt.Fprintf(told, "%d %s\n", n, name)
	}
}

func (d *plainDesk) tellFan(told *strings.Builder, p api.Program, tables []string, by string) api.Errno {
	if workers, _ := strconv.Atoi(by); workers < 1 || workers > 16 {
		return api.ErrArg
	}
	var flows []api.Flow
	for n, name := range tables {
		out := ran(p, d.tables[name])
		if out.Fault != api.NoFault {
			fmt.Fprintf(told, "scenario %d\nfault %s\n", n, faultNames[out.Fault])
			return api.OK
		}
		flows = append(flows, out.Flows...)
	}
	tellSums(told, flows)
	return api.OK
}

// outcome: what a life comes to, up to a day that is not reached.
func (l plainLife) outcome(days int) (flows []api.Flow, fault api.Fault, at int, state api.State) {
	p, _, _ := image.Decode([]byte(l.img))
	m, _ := machine.New(p)
	for day := 0; day < days && !m.Over(); day++ {
		var row []api.Cell
		if day < len(l.rows) {
			row = l.rows[day]
		}
		some, _, _ := m.Day(row)
		flows = append(flows, some...)
	}
	s := m.State()
	return flows, s.Fault, s.Day, s
}

func (l plainLife) isOver() bool {
	p, _, _ := image.Decode([]byte(l.img))
	_, fault, _, _ := l.outcome(l.gone)
	return fault != api.NoFault || l.gone > p.Horizon
}

func (d *plainDesk) ofMachine(told *strings.Builder, word string, said []string) api.Errno {
	switch word {
	case "start":
		rows, _ := table.Bind(d.tables[said[1]], d.program(said[0]).Names)
		d.lives[said[2]] = plainLife{d.images[said[0]], rows, 0}
	case "freeze":
		l := d.lives[said[0]]
		p, _, _ := image.Decode([]byte(l.img))
		_, _, _, state := l.outcome(l.gone)
		b, e := save.Encode(p, state)
		d.frozen[said[1]] = l
		fmt.Fprintf(told, "%s %d bytes\n", said[1], len(b))
		return e
	case "thaw":
		l := d.frozen[said[1]]
		// No two programs of these tests have one mark.
		if l.img != d.images[said[0]] {
			return api.ErrOther
		}
		later, _ := table.Bind(d.tables[said[2]], d.program(said[0]).Names)
		rows := slices.Clone(l.rows[:min(l.gone, len(l.rows))])
		for len(rows) < l.gone {
			rows = append(rows, nil)
		}
		d.lives[said[3]] = plainLife{l.img, append(rows, later[min(l.gone, len(later)):]...), l.gone}
	case "step":
		return d.tellSteps(told, said)
	}
	return api.OK
}

func (d *plainDesk) tellSteps(told *strings.Builder, said []string) api.Errno {
	l := d.lives[said[0]]
	if l.isOver() {
		return api.ErrOver
	}
	days := 1
	if said[1] != "" {
		days, _ = strconv.Atoi(said[1])
	}
	before, _, _, _ := l.outcome(l.gone)
	flows, fault, day, state := l.outcome(l.gone + days)
	l.gone = state.Today
	d.lives[said[0]] = l
	tellFlows(told, flows[len(before):])
	if l.isOver() {
		tellOutcome(told, api.Outcome{Fault: fault, Day: day})
	}
	return api.OK
}

// now: the book, made anew.
func (d *plainDesk) now() *book.Book {
	b := book.New()
	for _, event := range d.events {
		b = event(b)
	}
	return b
}

func tellEntries(told *strings.Builder, entries []api.Entry) {
	for _, entry := range entries {
		fmt.Fprintf(told, "%d %s %s %d\n", entry.Day, entry.Name, entry.Cur, entry.Amount)
	}
}

// happens notes what happens to the book, unless it is refused.
func (d *plainDesk) happens(event func(b *book.Book) api.Errno) api.Errno {
	e := event(d.now())
	if e == api.OK {
		d.events = append(d.events, func(b *book.Book) *book.Book {
			event(b)
			return b
		})
	}
	return e
}

func (d *plainDesk) ofBook(told *strings.Builder, word string, said []string) api.Errno {
	switch word {
	case "open":
		img := []byte(d.images[said[0]])
		return d.happens(func(b *book.Book) api.Errno { return b.Add(said[1], img) })
	case "drop":
		return d.happens(func(b *book.Book) api.Errno { return b.Drop(said[0]) })
	case "compact":
		return d.happens((*book.Book).Compact)
	case "day":
		var known []api.Pair
		for _, pair := range strings.Fields(said[0]) {
			name, digits, _ := strings.Cut(pair, "=")
			v, _ := strconv.Atoi(digits)
			known = append(known, api.Pair{Name: name, V: v})
		}
		before := len(d.now().Ledger())
		e := d.happens(func(b *book.Book) api.Errno {
			_, e := b.Day(known)
			return e
		})
		tellEntries(told, d.now().Ledger()[before:])
		return e
	case "cut":
		size, _ := strconv.Atoi(said[0])
		all := d.now().Journal()
		all = all[:min(size, len(all))]
		_, counted, _ := book.Open(all)
		d.events = []func(*book.Book) *book.Book{func(*book.Book) *book.Book {
			b, _, _ := book.Open(all)
			return b
		}}
		fmt.Fprintf(told, "cut %d\n", counted)
	}
	return d.tellBook(told, word, said)
}

// tellBook: what is asked of the book.
func (d *plainDesk) tellBook(told *strings.Builder, word string, said []string) api.Errno {
	b := d.now()
	switch word {
	case "book":
		fmt.Fprintf(told, "today %d\n", b.Today())
		for _, p := range b.Positions() {
			how := map[int]string{
				api.Running: "running",
				api.Ended:   fmt.Sprintf("ended on %d", p.Day),
				api.Faulted: fmt.Sprintf("fault %s on %d", faultNames[p.Fault], p.Day),
			}[p.State]
			fmt.Fprintf(told, "%s since %d %s\n", p.Name, p.Since, how)
		}
	case "ledger":
		tellEntries(told, b.Ledger())
	case "journal":
		all := b.Journal()
		j, _, _ := journal.Open(all)
		fmt.Fprintf(told, "journal %d bytes %d records\n", len(all), len(j.Ends()))
	case "balance":
		if _, _, e := b.Balance(said[0]); e != api.OK {
			return e
		}
		var flows []api.Flow
		for _, entry := range b.Ledger() {
			if entry.Name == said[0] {
				flows = append(flows, api.Flow{Cur: entry.Cur, Amount: entry.Amount})
			}
		}
		tellSums(told, flows)
	}
	return api.OK
}

// plainRun: P2303, but for the lengths.
func plainRun(files []api.File, script string) (string, int, api.Errno) {
	d, _, e := plainNew(files)
	if e != api.OK {
		return "", 0, e
	}
	lines := strings.SplitAfter(script, "\n")
	for n, line := range lines {
		if _, _, e := plainRead(strings.TrimSuffix(line, "\n")); e != api.OK {
			return "", n + 1, e
		}
	}
	all := ""
	for _, line := range lines {
		told, _ := d.do(strings.TrimSuffix(line, "\n"))
		for _, s := range told {
			all += s + "\n"
		}
	}
	return all, 0, api.OK
}

// both: a desk, and the plain one beside it.
type both struct {
	got   *desk.Desk
	plain *plainDesk
}

func newBoth(t *testing.T, files []api.File) both {
	t.Helper()
	p, _, _ := plainNew(files)
	return both{made(t, files), p}
}

// do plays a line on both, which must tell the same.
func (b both) do(t *testing.T, line string) ([]string, api.Errno) {
	t.Helper()
	told, e := b.got.Do(line)
	wanted, wantE := b.plain.do(line)
	if e != wantE || !slices.Equal(told, wanted) {
		t.Fatalf("Do(%.300q) = %.3000q, %d, want %.3000q, %d", line, told, e, wanted, wantE)
	}
	return told, e
}
