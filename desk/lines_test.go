package desk_test

import (
	"slices"
	"strings"
	"testing"

	"payoff/api"
	"payoff/desk"
)

// longName has as many bytes as a name may have.
var longName = "n" + strings.Repeat("_9", 15)

// rightLines: lines that are commands, whatever is there.
var rightLines = []string{
	"compile f as p", "compile f as p nofold", "compile f as p noshare", "compile f as p nofold noshare", "compile nofold as noshare nofold", "compile nofold as nofold noshare", "compile as_ as on_",
	"assemble f as p", "table f as t", "print f", "list p", "measure f", "run p on t", "mean f on t", "needs p", "proof p",
	"join p as p", "join p q as p", "join p p p p p p p p as q", "join compile as join",
	"later p 0 as p", "later p 3660 as q", "later p 999999999 as q", "rename p A B as p", "rename p A A as q", "rename p A9_ Z as q",
	"start p on t as m", "step m", "step m 0", "step m 1", "step m 10", "step m 999999999", "freeze m as z", "thaw p z on t as m",
	"fan p on t by 0", "fan p on t by 1", "fan p on t t u t by 17", "fan p on t by 123456789",
	"open p as a", "drop a", "day", "day A=0", "day A=-1", "day A=1 B=-999999999 C_9=999999999", "day A=1 A=1", "book", "balance a", "ledger", "cut 0", "cut 8", "cut 999999999", "journal", "compact",
	"list book", "list compact", "list p0", "list a_", "list " + longName, "run r on nofold", "drop noshare", "open o as a1_b", "day " + strings.ToUpper(longName) + "=7",
}

// wrongLines: lines that are none.
var wrongLines = []string{
	// Words that are no commands.
	"x", "Book", "BOOK", "books", "boo", "book.", "book\t", "\tbook", "book\r", "book\n", "\nbook", "book\x00", "\x00", "=", "as", "compile", "-", "a#", "day# A=1", "\xff", "b\xc3\xb6ok", "\u00a0book", "fault", "cut#",
	// Too few, too many, in another order.
	"compile f", "compile f as", "compile f p", "compile as p", "compile f as p nofold nofold", "compile f as p noshare nofold", "compile f as p noshare noshare", "compile f as p nofold noshare q", "compile f as p x", "compile f as p no fold", "compile nofold f as p", "compile f f as p", "compile f as p NOFOLD",
	"assemble f", "assemble f as p nofold", "assemble f on p", "table f", "table as t", "table f as t t", "print", "print f f", "list", "list p p", "measure", "measure f on t", "run p", "run p t", "run p as t", "run on t", "run p on", "run p on t u", "run p on t as o", "mean f", "mean f t", "mean f as t", "needs", "needs p p", "proof", "proof p as q",
	"join p", "join as p", "join p as", "join p q", "join p as q r", "join p as q as r", "join as as p", "join on as p", "join p, q as r", "join",
	"later p as q", "later p 1 q", "later 1 p as q", "later p 1 2 as q", "later p 1 as", "rename p as q", "rename p A as q", "rename p A B C as q", "rename p A B C D as q", "rename p A B q", "rename A B as q",
	"start p as m", "start p on t", "start p on t m", "start p t as m", "step", "step 1", "step m 1 2", "step m n", "freeze m", "freeze m z", "freeze as z", "thaw p z as m", "thaw p on t as m", "thaw z on t as m as n", "thaw p z t as m", "thaw p z on t",
	"fan p on by 1", "fan p t by 1", "fan p on t", "fan p on t by", "fan p on t by 1 2", "fan p q on t by 1", "fan p on t by t", "fan on t by 1",
	"open p", "open p a", "open p on a", "open as a", "drop", "drop a b", "day A", "day A=", "day =1", "day A =1", "day A= 1", "day A = 1", "day 1", "day A=1,B=2", "day A=1 B", "day A=B", "day A=1=1", "day A==1", "day as", "book a", "book 1", "balance", "balance a b", "ledger a", "cut", "cut 1 2", "cut a", "journal 1", "compact 1",
	// Names.
	"list A", "list 1", "list _", "list -", "list p-q", "list pQ", "list p.q", "list as", "list on", "list deal", "list day", "list to", "list half_even", "list " + longName + "x", "list p\t", "list \xff", "print as", "print zero", "print F", "measure if", "run as on t", "run p on on", "run p on at", "mean on on t", "mean f on as", "needs and", "proof by", "join p by as q", "join p as as", "join p as on", "join p A as q", "later P 1 as q", "later p 1 as on", "rename p A B as as", "rename P A B as q",
	"compile as as p", "compile f as as", "compile f as on", "compile f as scale", "compile F as p", "assemble f as on", "assemble on as p", "table f as as", "table f as T", "start p on t as as", "start on on t as m", "step as", "step M", "freeze m as on", "freeze on as z", "thaw p z on t as on", "thaw p as on t as m", "thaw p z on as as m", "fan p on as by 1", "fan p on t on by 1", "fan as on t by 1", "open p as as", "open p as on", "open p as deal", "open p as A", "drop as", "drop on", "drop true", "drop A", "balance on", "balance false", "balance A",
	// Numbers.
	"step m 00", "step m 01", "step m -1", "step m -0", "step m +1", "step m 1.0", "step m 1_0", "step m 0x1", "step m 1e3", "step m 1000000000", "step m 0000000001", "step m 9223372036854775808", "step m \xd9\xa1", "later p 00 as q", "later p -1 as q", "later p 1000000000 as q", "fan p on t by 01", "fan p on t by -1", "cut 08", "cut -1", "cut 1000000000", "cut +8", "cut 8.",
	// Observables, and what is told of them.
	"rename p a B as q", "rename p A b as q", "rename p A 1 as q", "rename p A _ as q", "rename p A B- as q", "rename p A " + strings.ToUpper(longName) + "X as q", "day a=1", "day 1=1", "day _A=1", "day Ab=1", "day A-=1", "day " + strings.ToUpper(longName) + "X=1",
	"day A=00", "day A=01", "day A=-0", "day A=-01", "day A=-00", "day A=--1", "day A=+1", "day A=-", "day A=1.5", "day A=1000000000", "day A=-1000000000", "day A=1 B=-0", "day A=1 b=1", "day A=0x1", "day A=1-", "day A=9223372036854775807", "day A=\t1", "day A=1\x00", "day A=- 1",
}

// P2302: each line of the table, and its words.
func TestRightLines(t *testing.T) {
	for _, line := range rightLines {
		for _, l := range []string{line, " " + line, line + "  ", strings.ReplaceAll(line, " ", "   ")} {
			d := made(t, nil)
			if _, e := d.Do(l); e != api.OK {
				t.Errorf("Do(%q): %d", l, e)
			}
			newBoth(t, nil).do(t, l)
			holdRun(t, nil, l)
		}
	}
}

// P2302, P2303: lines that are no command: nothing happens, nothing is told.
func TestWrongLines(t *testing.T) {
	d := bookOf(t)
	before := probe(t, d)
	for _, line := range wrongLines {
		for _, l := range []string{line, "  " + line + " "} {
			if told, e := d.Do(l); e != api.ErrCommand || len(told) > 0 {
				t.Errorf("Do(%q): %q, %d", l, told, e)
			}
			newBoth(t, nil).do(t, l)
		}
		if strings.Contains(line, "\n") {
			continue
		}
		if all, at, e := desk.Run(exampleTexts(), "book\n\n"+line+"\n"+line); all != "" || at != 3 || e != api.ErrCommand {
			t.Errorf("Run with %q: %q, %d, %d", line, all, at, e)
		}
	}
	wantProbe(t, d, before)
}

// probe: all that a desk tells of what is on it, by the names that the tests use.
func probe(t *testing.T, d *desk.Desk) []string {
	t.Helper()
	var all []string
	for _, name := range strings.Fields("p q r s u a b c m n z t") {
		for _, line := range []string{"list N", "run N on t", "run p on N", "start p on t as probe", "thaw p N on t as probe", "thaw q N on t as probe", "step probe 9999", "freeze N as probe", "balance N"} {
			all = append(all, done(t, d, strings.ReplaceAll(line, "N", name))...)
		}
	}
	for _, line := range []string{"book", "ledger", "journal"} {
		all = append(all, done(t, d, line)...)
	}
	return all
}

func wantProbe(t *testing.T, d *desk.Desk, before []string) {
	t.Helper()
	if now := probe(t, d); !slices.Equal(now, before) {
		t.Errorf("the desk has changed:\n%q\nwant\n%q", now, before)
	}
}

// P2302: lines without a command.
func TestLinesWithoutCommand(t *testing.T) {
	d := bookOf(t)
	before := probe(t, d)
	lines := []string{"", " ", "     ", "#", "# book", "   #", "#book", "##", "# \x00\xff\t\r", "#day A=1", " #\"", strings.Repeat(" ", 200), "#" + strings.Repeat("x", 199), strings.Repeat(" ", 199) + "#"}
	for _, line := range lines {
		want(t, d, line)
		if all, at, e := desk.Run(nil, line+"\nbook\n"+line); all != "today 0\n" || at != 0 || e != api.OK {
			t.Errorf("Run with %q: %q, %d, %d", line, all, at, e)
		}
	}
	want(t, d, "# x\nbook")
	wantProbe(t, d, before)
}

// P2302: ErrLong comes first, whatever the line holds.
func TestLongLines(t *testing.T) {
	pad := func(line string, length int) string { return line + strings.Repeat(" ", length-len(line)) }
	for _, line := range []string{"book", "", "#", "flush", "day", "day A=1 ", "\x00", "drop deal"} {
		d := made(t, nil)
		_, usual := d.Do(line)
		for _, length := range []int{199, 200} {
			if _, e := d.Do(pad(line, length)); e != usual {
				t.Errorf("Do of %q with %d bytes: %d", line, length, e)
			}
		}
		for _, length := range []int{201, 202, 100000} {
			if told, e := d.Do(pad(line, length)); e != api.ErrLong || len(told) > 0 {
				t.Errorf("Do of %q with %d bytes: %q, %d", line, length, told, e)
			}
		}
		if all, at, e := desk.Run(nil, "book\n"+pad(line, 201)+"\nflush"); all != "" || at != 2 || e != api.ErrLong {
			t.Errorf("Run of %q: %q, %d, %d", line, all, at, e)
		}
	}
	long := "day" + strings.Repeat(" ", 194) + "A=1"
	want(t, made(t, nil), long)
	if told, e := made(t, nil).Do(long + " "); e != api.ErrLong || len(told) > 0 {
		t.Errorf("Do of 201 bytes: %q, %d", told, e)
	}
}

// P2302: as many names as a line has room for.
func TestManyNamesInALine(t *testing.T) {
	d := plenty(t)
	want(t, d, "join"+strings.Repeat(" p", 64)+" as r", "r N bytes")
	want(t, d, "fan r on t by 1", "EUR 64")
	want(t, d, "join"+strings.Repeat(" p", 65)+" as r", "refused 1")
	want(t, d, "join"+strings.Repeat(" p", 95)+" as r", "refused 1")
	want(t, d, "join"+strings.Repeat(" p", 94)+" x as r", "refused 222")
	want(t, d, "fan r on t by 1", "EUR 64")
	want(t, d, "fan p on"+strings.Repeat(" t", 93)+" by 16", "EUR 93")
}
