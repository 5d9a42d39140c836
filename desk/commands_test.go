package desk_test

import (
	"fmt"
	"slices"
	"strings"
	"testing"

	"payoff/api"
	"payoff/asm"
	"payoff/desk"
	"payoff/image"
	"payoff/tree"
)

// with: the texts of the examples, and others: a name and a text, and so on.
func with(others ...string) []api.File {
	files := exampleTexts()
	for n := 0; n < len(others); n += 2 {
		files = append(files, api.File{Name: others[n], Text: others[n+1]})
	}
	return files
}

// code: a program's text, written on one line.
func code(lines string) string { return strings.ReplaceAll(lines, "; ", "\n") }

// example13 is the program of chapter 13's example: on day 1 it pays 5 times A of the day ahead.
var example13 = code("names A; curs EUR; pool 5; horizon 1; cells 0; slots 0; stack 2; day 1;   obs A 1;   const 5;   mul;   flow EUR;   end")

// lengthOf: how many bytes the image of a program has.
func lengthOf(t *testing.T, text string) int {
	t.Helper()
	p, line, e := asm.Parse(text)
	if e != api.OK {
		t.Fatalf("%q: %d, %d", text, line, e)
	}
	b, e := image.Encode(p)
	if e != api.OK {
		t.Fatalf("%q: %d", text, e)
	}
	return len(b)
}

// listed: the text that list tells of a program.
func listed(t *testing.T, d *desk.Desk, name string) string {
	t.Helper()
	return strings.Join(done(t, d, "list "+name), "\n") + "\n"
}

// P2302: compile: what is told of a text that has no image; the program of that name stays.
func TestCompileReports(t *testing.T) {
	ands := deal("contract zero" + strings.Repeat(" and zero", 7000) + ";")
	for _, c := range []struct{ text, told string }{
		{strings.Repeat(" ", 65537), "too long"},
		{deal("contract zero;") + strings.Repeat("\n", 65536), "too long"},
		{strings.Repeat(" ", 65536), "syntax 65536"},
		{"", "syntax 0"},
		{"day R\n0 1", "syntax 0"},
		{deal("contract pay (EURO, 1);"), "syntax 41"},
		{deal("contract pay (EUR, $);"), "syntax 46"},
		{deal("contract zero;") + " x", "syntax 44"},
		{deal("contract pay (EUR, R);"), "type 2 0"},
		{deal("observe A, B, A; contract zero;"), "type 0 2"},
		{deal("def f(a) = !a; contract zero;"), "type 1 0 0 0"},
		{deal("def f() = 1; def f() = 2; contract zero;"), "type 1 1"},
		{deal("contract give give pay (EUR, true ? 1 : false);"), "type 2 0 0 0 2"},
		{deal("contract for t in 3 .. 2 zero;"), "type 2"},
		{deal("contract delay (5000) pay (EUR, true);"), "type 2 0 0"},
		{deal("contract delay (5000) pay (EUR, 1);"), "limit 3 5000 1 3 0 0 1216"},
		{deal("observe A; contract for t in 0 .. 2048 pay (EUR, A);"), "limit 3 2048 2049 6147 0 1 394472"},
		{deal("contract" + strings.Repeat(" give", 63) + " pay (EUR, 1);"), "limit 65 0 1 66 0 0 5248"},
		{ands, "N bytes"},
	} {
		d := played(t, with("f", c.text), "compile swap as p", "table rates as t")
		before := probe(t, d)
		want(t, d, "compile f as p", "p "+c.told)
		if c.told != "N bytes" {
			wantProbe(t, d, before)
			want(t, d, "mean f on t", "f "+c.told)
			want(t, d, "compile f as v nofold noshare", "v "+c.told)
			want(t, d, "run v on t", "refused 222")
		}
	}
}

// P2302: compile: what may be denied: in this order: fold, share.
func TestCompileSettings(t *testing.T) {
	d := made(t, with("f", deal("observe A; contract pay (EUR, 2 * 3 + A * A + A * A);")))
	lists := map[string]string{
		"":                "names A; curs EUR; pool 6; horizon 0; cells 0; slots 1; stack 3; day 0;   const 6;   obs A 0;   obs A 0;   mul;   keep 0;   add;   get 0;   add;   flow EUR;   end; ",
		" nofold":         "names A; curs EUR; pool 2 3; horizon 0; cells 0; slots 1; stack 3; day 0;   const 2;   const 3;   mul;   obs A 0;   obs A 0;   mul;   keep 0;   add;   get 0;   add;   flow EUR;   end; ",
		" noshare":        "names A; curs EUR; pool 6; horizon 0; cells 0; slots 0; stack 3; day 0;   const 6;   obs A 0;   obs A 0;   mul;   add;   obs A 0;   obs A 0;   mul;   add;   flow EUR;   end; ",
		" nofold noshare": "names A; curs EUR; pool 2 3; horizon 0; cells 0; slots 0; stack 3; day 0;   const 2;   const 3;   mul;   obs A 0;   obs A 0;   mul;   add;   obs A 0;   obs A 0;   mul;   add;   flow EUR;   end; ",
	}
	for setting, list := range lists {
		want(t, d, "compile f as p"+setting, fmt.Sprintf("p %d bytes", lengthOf(t, code(list))))
		if got := listed(t, d, "p"); got != code(list) {
			t.Errorf("compiled%s:\n%s", setting, got)
		}
	}
}

// P2302: assemble.
func TestAssemble(t *testing.T) {
	for _, c := range []struct{ text, told string }{
		{"", "line 1 refused 131"},
		{"\n\n", "line 3 refused 131"},
		{code("horizon 0; cells 0; slots 0; stuck 0"), "line 4 refused 131"},
		{code("horizon 0; cells 0; slots 0"), "line 4 refused 131"},
		{code("horizon 0; cells 0; slots 0; stack 0; day 1; end"), "line 0 refused 121"},
		{code("horizon 0; cells 0; slots 0; stack 0; day 0; jump 9; end"), "refused 141"},
		{code("curs EUR; horizon 0; cells 0; slots 0; stack 0; day 0; flow EUR; end"), "refused 142"},
		{code("curs EUR; horizon 0; cells 0; slots 0; stack 1; day 0; bool 1; flow EUR; end"), "refused 143"},
		{code("curs EUR; horizon 0; cells 0; slots 1; stack 1; day 0; get 0; flow EUR; end"), "refused 144"},
		{code("names A; curs EUR; horizon 1; cells 0; slots 0; stack 1; day 0; obs A 1; flow EUR; end"), "refused 145"},
		{code("horizon 0; cells 0; slots 0; stack 1; day 0; jump 2; bool 1; drop; end"), "refused 146"},
		{code("horizon 0; cells 0; slots 0; stack 2; day 0; bool 1; drop; end"), "refused 147"},
	} {
		d := played(t, with("f", c.text), "compile swap as p", "table rates as t")
		before := probe(t, d)
		want(t, d, "assemble f as p", "p "+c.told)
		wantProbe(t, d, before)
		want(t, d, "assemble f as v", "v "+c.told)
		want(t, d, "list v", "refused 222")
	}
	d := made(t, with("f", "; a program\n"+strings.ReplaceAll(example13, "mul", "mul ; five times\r\n")+"\n\n", "g", code("horizon 7; cells 0; slots 0; stack 0"), "obs", "day A\n0 7\n"))
	want(t, d, "assemble f as p", fmt.Sprintf("p %d bytes", lengthOf(t, example13)))
	want(t, d, "list p", strings.Split(example13, "\n")...)
	want(t, d, "assemble g as q", fmt.Sprintf("q %d bytes", lengthOf(t, code("horizon 7; cells 0; slots 0; stack 0"))))
	want(t, d, "list q", "horizon 7", "cells 0", "slots 0", "stack 0")
	want(t, d, "table obs as t", "t 1 rows")
	want(t, d, "run p on t", "1 EUR 35", "done")
	want(t, d, "run q on t", "done")
	want(t, d, "proof p", "stack 2 fuel 5 back 1")
	want(t, d, "proof q", "stack 0 fuel 0 back 0")
	want(t, d, "needs p", "0 A")
	want(t, d, "needs q")
}

// P2302: table.
func TestTable(t *testing.T) {
	for _, c := range []struct{ text, told string }{
		{"", "place 0 refused 51"},
		{"\n# none", "place 7 refused 51"},
		{"day A A", "place 6 refused 52"},
		{"day A\n0 1\n0 2", "place 10 refused 51"},
		{"day A\n4096 1", "place 6 refused 6"},
		{deal("contract zero;"), "place 0 refused 51"},
	} {
		d := played(t, with("f", c.text), "compile swap as p", "table rates as t")
		before := probe(t, d)
		want(t, d, "table f as t", "t "+c.told)
		wantProbe(t, d, before)
		want(t, d, "table f as v", "v "+c.told)
		want(t, d, "run p on v", "refused 222")
	}
	d := made(t, with("f", "day", "g", "day R S\n\n0 1 2\n3 4 -\n", "h", "day A\n4095 -"))
	want(t, d, "table f as t", "t 0 rows")
	want(t, d, "table g as t", "t 4 rows")
	want(t, d, "table h as t", "t 4096 rows")
}

// P2302: print and measure.
func TestPrintAndMeasure(t *testing.T) {
	d := made(t, with(
		"blank", "", "wrong", deal("contract pay (EUR, $);"), "unfit", deal("observe A; contract pay (EUR, !A);"),
		"great", deal("contract delay (5000) pay (EUR, 1);"), "sum", deal("contract pay(EUR,1"+strings.Repeat("+1", 30000)+");"), "long", strings.Repeat(" ", 65537),
		"loose", "deal a{start 2026-01-05;holidays 2026-01-06;observe R,S;def f(x)=x+(1);contract{pay(EUR,f(R)) and zero} and give{zero};}# a comment"))
	want(t, d, "print none", "deal swap {", "  start 2026-01-05;", "  contract pay(EUR, R);", "}")
	want(t, d, "print loose", "deal a {", "  start 2026-01-05;", "  holidays 2026-01-06;", "  observe R, S;", "  def f(x) = x + 1;", "  contract pay(EUR, f(R)) and zero and give zero;", "}")
	want(t, d, "print unfit", "deal x {", "  start 2026-01-05;", "  observe A;", "  contract pay(EUR, !A);", "}")
	want(t, d, "print blank", "place 0 refused 71")
	want(t, d, "print wrong", "place 46 refused 71")
	want(t, d, "print long", "place 0 refused 6")
	want(t, d, "print sum", "refused 6")
	want(t, d, "measure loose", "measure 5 0 1 5 0 2 1424")
	want(t, d, "measure great", "measure 3 5000 1 3 0 0 1216")
	want(t, d, "measure none", "refused 81")
	want(t, d, "measure unfit", "refused 81")
	want(t, d, "measure blank", "place 0 refused 71")
	want(t, d, "measure wrong", "place 46 refused 71")
	want(t, d, "measure long", "place 0 refused 6")
	want(t, d, "measure sum", "measure 30002 0 1 60003 0 0 3841216")
	for _, line := range []string{"print none", "print loose"} {
		text := strings.Join(done(t, d, line), "\n") + "\n"
		if parsed, _, e := tree.Parse(text); e != api.OK || len(parsed.Name) == 0 {
			t.Errorf("%q: %d", text, e)
		}
		want(t, made(t, with("again", text)), "print again", strings.Split(strings.TrimSuffix(text, "\n"), "\n")...)
	}
}

// P2302: run, mean and fan: each fault; amounts of any size.
func TestFaults(t *testing.T) {
	d := made(t, with(
		"over", deal("observe R; contract pay (EUR, 9223372036854775807) and pay (EUR, 9223372036854775807 + R);"),
		"zero_", deal("observe R; contract pay (EUR, R - 9223372036854775807 - 1) and delay (1) pay (USD, 1 / (R[-1] - R));"),
		"miss", deal("observe R, S; contract pay (AUD, R) and delay (2) pay (USD, S[-1]);"),
		"most", deal("observe R; contract pay (CHF, R * 9223372036854775807);"),
		"none_", "day S\n0 1\n", "flat", "day R S\n0 0 1\n1 0 1\n", "ones", "day R\n0 1\n1 1\n"))
	for _, line := range []string{"table rates as t", "table none_ as n", "table flat as o", "table ones as u"} {
		done(t, d, line)
	}
	for name, told := range map[string][]string{
		"over on t":  {"0 EUR 9223372036854775807", "fault overflow on day 0"},
		"over on o":  {"0 EUR 9223372036854775807", "0 EUR 9223372036854775807", "done"},
		"over on n":  {"0 EUR 9223372036854775807", "fault missing on day 0"},
		"zero_ on t": {"0 EUR -9223372036854775807", "1 USD 0", "done"},
		"zero_ on o": {"0 EUR -9223372036854775808", "fault zero on day 1"},
		"zero_ on n": {"fault missing on day 0"},
		"miss on t":  {"0 AUD 1", "fault missing on day 2"},
		"miss on o":  {"0 AUD 0", "2 USD 1", "done"},
	} {
		text, on, _ := strings.Cut(name, " ")
		done(t, d, "compile "+text+" as p")
		want(t, d, "run p "+on, told...)
		want(t, d, "mean "+name, told...)
	}
	done(t, d, "compile most as p")
	want(t, d, "fan p on u by 1", "CHF 9223372036854775807")
	want(t, d, "fan p on u o o by 2", "CHF 9223372036854775807")
	want(t, d, "fan p on u u by 2", "overflow")
	want(t, d, "fan p on u u n by 2", "scenario 2", "fault missing")
	want(t, d, "fan p on n u u by 2", "scenario 0", "fault missing")
	done(t, d, "compile zero_ as p")
	want(t, d, "fan p on t t o n by 16", "scenario 2", "fault zero")
	done(t, d, "compile over as p")
	want(t, d, "fan p on o o by 16", "overflow")
	want(t, d, "fan p on t by 1", "scenario 0", "fault overflow")
	want(t, d, "fan p on t by 16", "scenario 0", "fault overflow")
	want(t, d, "fan p on t by 0", "refused 1")
	want(t, d, "fan p on t by 17", "refused 1")
	done(t, d, "compile miss as p")
	want(t, d, "fan p on o o o by 3", "AUD 0", "USD 3")
}

// P2302: join, later, rename: what they refuse leaves the program of that name as it is.
func TestPrograms(t *testing.T) {
	d := played(t, with("f", example13), "assemble f as p", "compile two as q", "table rates as t")
	want(t, d, "later p 2 as p", fmt.Sprintf("p %d bytes", lengthOf(t, example13)))
	want(t, d, "needs p", "2 A")
	want(t, d, "later p 0 as r", fmt.Sprintf("r %d bytes", lengthOf(t, example13)))
	want(t, d, "list r", done(t, d, "list p")...)
	before := probe(t, d)
	want(t, d, "later p 3658 as p", "refused 82")
	want(t, d, "later p 999999999 as q", "refused 82")
	want(t, d, "rename p B A as p", "refused 1")
	want(t, d, "rename q A B as p", "refused 1")
	want(t, d, "join p q x as p", "refused 222")
	wantProbe(t, d, before)
	want(t, d, "later p 3657 as s", "s N bytes")
	want(t, d, "needs s", "3659 A")
	want(t, d, "rename p A "+strings.ToUpper(longName)+" as p", "p N bytes")
	want(t, d, "needs p", "2 "+strings.ToUpper(longName))
	want(t, d, "rename p "+strings.ToUpper(longName)+" A as p", "p N bytes")
	want(t, d, "list p", done(t, d, "list r")...)
	want(t, d, "join p as s", "s N bytes")
	want(t, d, "list s", done(t, d, "list r")...)
	want(t, d, "join q p as p", "p N bytes")
	want(t, d, "join p p as p", "p N bytes")
	want(t, d, "needs p", "2 A")
}

// P2302: a join that would be too great.
func TestFullJoin(t *testing.T) {
	text := "curs EUR\npool 1\nhorizon 0\ncells 0\nslots 0\nstack 1\nday 0\n" + strings.Repeat("const 1\nflow EUR\n", 32768) + "end\n"
	d := played(t, with("f", text), "assemble f as p", "table rates as t")
	want(t, d, "join p p as q", "q N bytes")
	want(t, d, "join q p as q", "q N bytes")
	want(t, d, "join q p as s", "refused 4") // 2^18 and the end
	want(t, d, "list s", "refused 222")
	want(t, d, "fan q on t by 1", "EUR 98304")
	// What a line tells has no limit, nor what lines tell that are played one by one.
	for range 5 {
		if told := done(t, d, "list q"); len(told) != 7+2*98304+1 || told[len(told)-2] != "  flow EUR" {
			t.Fatalf("%d lines", len(told))
		}
	}
}

// P2302: start, step, freeze and thaw.
func TestMachines(t *testing.T) {
	d := played(t, with("f", example13, "obs", "day A\n0 7\n1 8\n", "other", "day A\n0 9\n"), "assemble f as p", "compile swap as q", "table obs as t", "table other as u")
	want(t, d, "start p on t as m")
	want(t, d, "step m 0")
	want(t, d, "freeze m as y", "y 29 bytes")
	want(t, d, "step m")
	want(t, d, "freeze m as z", "z 31 bytes")
	want(t, d, "step m 0")
	want(t, d, "step m", "1 EUR 35", "done")
	for _, line := range []string{"step m", "step m 0", "step m 5"} {
		want(t, d, line, "refused 151")
	}
	// One that is over is frozen and thawed over.
	want(t, d, "freeze m as o", "o 31 bytes")
	want(t, d, "thaw p o on t as n")
	want(t, d, "step n", "refused 151")
	// Thawed with other rows: what was seen is kept.
	want(t, d, "thaw p z on u as n")
	want(t, d, "step n 3660", "1 EUR 35", "done")
	want(t, d, "thaw p y on u as n")
	want(t, d, "step n 2", "1 EUR 45", "done")
	want(t, d, "thaw q z on t as n", "refused 161")
	want(t, d, "step n", "refused 151")
	want(t, d, "start q on t as k")
	want(t, d, "step k")
	want(t, d, "step k", "fault missing on day 1")
	want(t, d, "step k", "refused 151")
	want(t, d, "freeze k as k", "k N bytes")
	want(t, d, "thaw q k on t as l")
	want(t, d, "step l 0", "refused 151")
	want(t, d, "thaw p k on t as l", "refused 161")
	want(t, d, "step l 0", "refused 151")
}

// P2302: a machine's program and rows are what they were when it was made; a frozen one is what it was.
func TestMachinesKeepWhatTheyHave(t *testing.T) {
	d := played(t, exampleTexts(), "compile swap as p", "compile two as q", "table rates as t", "start p on t as m", "step m 2", "freeze m as z")
	done(t, d, "table short as t")
	done(t, d, "join q as p")
	want(t, d, "start p on t as n")
	want(t, d, "thaw p z on t as k", "refused 161")
	want(t, d, "step m", "2 EUR 0")
	want(t, d, "freeze m as y", "y N bytes")
	want(t, d, "step m", "3 EUR -1", "done")
	want(t, d, "step n 5", "2 USD 80", "fault zero on day 2")
	done(t, d, "compile swap as p nofold")
	want(t, d, "thaw p z on t as k")
	want(t, d, "step k", "fault missing on day 2")
	done(t, d, "table rates as t")
	want(t, d, "thaw p z on t as k")
	want(t, d, "step k", "2 EUR 0")
	want(t, d, "thaw p y on t as k")
	want(t, d, "step k", "3 EUR -1", "done")
	want(t, d, "start p on t as m")
	want(t, d, "step m 9", "1 EUR 2", "2 EUR 0", "3 EUR -1", "done")
}

// P2302: each kind has its own names; one of a kind replaces the one ahead of it.
func TestNames(t *testing.T) {
	d := made(t, append(with("x", exampleTexts()[0].Text), api.File{Name: "y", Text: exampleTexts()[1].Text}))
	for _, line := range []string{"start x on x as x", "freeze x as x", "thaw x x on x as x", "open x as x", "run x on x"} {
		want(t, d, line, "refused 222")
	}
	want(t, d, "compile x as x", "x N bytes")
	want(t, d, "run x on x", "refused 222")
	want(t, d, "table y as x", "x 4 rows")
	want(t, d, "run x on x", "1 EUR 2", "2 EUR 0", "3 EUR -1", "done")
	want(t, d, "step x", "refused 222")
	want(t, d, "start x on x as x")
	want(t, d, "thaw x x on x as x", "refused 222")
	want(t, d, "freeze x as x", "x N bytes")
	want(t, d, "step x 2", "1 EUR 2")
	want(t, d, "thaw x x on x as x")
	want(t, d, "step x 3", "1 EUR 2", "2 EUR 0")
	want(t, d, "balance x", "refused 222")
	want(t, d, "open x as x")
	want(t, d, "balance x")
	want(t, d, "drop x")
	want(t, d, "mean x on x", "1 EUR 2", "2 EUR 0", "3 EUR -1", "done")
	want(t, d, "compile two as x", "x N bytes")
	want(t, d, "run x on x", "2 USD 80", "fault zero on day 2")
	want(t, d, "table short as x", "x 2 rows")
	want(t, d, "mean x on x", "1 EUR 2", "fault missing on day 2")
	want(t, d, "step x", "3 EUR -1", "done")
	want(t, d, "start x on x as x")
	want(t, d, "freeze x as x", "x N bytes")
	want(t, d, "thaw x x on x as x")
}

// P2302: what is not there: 222, ahead of what the call would refuse; nothing changes.
func TestNotThere(t *testing.T) {
	d := played(t, exampleTexts(), "compile swap as p", "table rates as t", "start p on t as m", "freeze m as z", "open p as a", "day R=1")
	before := probe(t, d)
	for _, line := range []string{
		"compile x as p", "compile p as p", "assemble x as p", "assemble t as p", "table x as t", "table t as t", "print x", "print p", "measure x", "measure m",
		"list x", "list t", "list swap", "run x on t", "run p on x", "run x on x", "run t on p", "run swap on t", "mean x on t", "mean swap on x", "mean none on x", "mean p on t", "mean swap on rates", "needs x", "proof x", "proof m",
		"join x as p", "join p x as p", "join x p as p", "join p p x p as p", "later x 1 as p", "later x 999999999 as p", "rename x R S as p", "rename x B C as p",
		"start x on t as m", "start p on x as m", "start m on t as m", "step x", "step p", "step z 0", "freeze x as z", "freeze p as z", "freeze z as z", "thaw x z on t as m", "thaw p x on t as m", "thaw p z on x as m", "thaw p m on t as m",
		"fan x on t by 1", "fan p on x by 1", "fan p on t x by 1", "fan p on x t by 0", "fan x on t by 17", "fan p on p by 1", "open x as b", "open x as a", "open swap as b", "drop x", "drop p", "balance x", "balance p",
	} {
		want(t, d, line, "refused 222")
	}
	wantProbe(t, d, before)
}

// P2302: the book.
func TestBook(t *testing.T) {
	d := played(t, with("over", deal("observe R; contract pay (EUR, R) and pay (EUR, 9223372036854775807);"), "some", deal("contract pay (USD, 3) and give pay (AUD, 4);")), "compile swap as p", "compile over as q", "compile some as r")
	want(t, d, "book", "today 0")
	want(t, d, "ledger")
	want(t, d, "journal", "journal 8 bytes 0 records")
	want(t, d, "open p as a")
	want(t, d, "open p as a", "refused 221")
	want(t, d, "open q as b")
	want(t, d, "open r as c")
	want(t, d, "balance c")
	want(t, d, "day R=1 R=1", "refused 52")
	want(t, d, "day R=1 S=-999999999", "0 b EUR 1", "0 b EUR 9223372036854775807", "0 c USD 3", "0 c AUD -4")
	want(t, d, "balance b", "overflow")
	want(t, d, "balance c", "AUD -4", "USD 3")
	want(t, d, "balance a")
	want(t, d, "book", "today 1", "a since 0 running", "b since 0 ended on 0", "c since 0 ended on 0")
	want(t, d, "drop c")
	want(t, d, "open r as c", "refused 221")
	want(t, d, "open q as d")
	want(t, d, "day R=-999999999", "1 a EUR -1000000004", "1 d EUR -999999999", "1 d EUR 9223372036854775807")
	want(t, d, "balance c", "AUD -4", "USD 3")
	want(t, d, "balance d", "EUR 9223372035854775808")
	want(t, d, "day S=1")
	want(t, d, "book", "today 3", "a since 0 fault missing on 2", "b since 0 ended on 0", "d since 1 ended on 1")
	want(t, d, "ledger", "0 b EUR 1", "0 b EUR 9223372036854775807", "0 c USD 3", "0 c AUD -4", "1 a EUR -1000000004", "1 d EUR -999999999", "1 d EUR 9223372036854775807")
	want(t, d, "journal", "journal N bytes 8 records")
	want(t, d, "compact")
	want(t, d, "journal", "journal N bytes 7 records")
}

// P2302: each word for a position's fault.
func TestFaultsOfPositions(t *testing.T) {
	d := played(t, with("over", deal("observe R; contract delay (1) pay (EUR, R + 9223372036854775807);"), "zero_", deal("observe R; contract delay (1) pay (EUR, 1 / (R - 1));")),
		"compile over as p", "compile zero_ as q", "compile swap as r", "day", "open p as a", "open q as b", "open r as c", "day", "day R=1 S=7")
	want(t, d, "book", "today 3", "a since 1 fault overflow on 2", "b since 1 fault zero on 2", "c since 1 running")
	want(t, d, "day")
	want(t, d, "book", "today 4", "a since 1 fault overflow on 2", "b since 1 fault zero on 2", "c since 1 fault missing on 3")
}

// P2302, P2306: cut at any byte: told is what counted; beyond the end all counts.
func TestCut(t *testing.T) {
	lines := []string{"open p as a", "day R=1", "open p as b", "day R=7", "drop b", "day R=5"}
	var sizes []int
	d := plenty(t)
	for _, line := range append([]string{""}, lines...) {
		done(t, d, line)
		var size, records int
		fmt.Sscanf(done(t, d, "journal")[0], "journal %d bytes %d records", &size, &records)
		if sizes = append(sizes, size); records != len(sizes)-1 {
			t.Errorf("%d records behind %q", records, line)
		}
	}
	all := sizes[len(lines)]
	for cut := range all + 3 {
		d := played(t, exampleTexts(), append([]string{"compile swap as p"}, lines...)...)
		there, counted := 0, 0
		for n, size := range sizes {
			if size <= cut {
				there, counted = n, size
			}
		}
		want(t, d, fmt.Sprint("cut ", cut), fmt.Sprint("cut ", counted))
		want(t, d, "journal", fmt.Sprintf("journal %d bytes %d records", max(8, counted), there))
		twin := played(t, exampleTexts(), append([]string{"compile swap as p"}, lines[:there]...)...)
		for _, line := range []string{"book", "ledger", "open p as b", "day R=9", "balance a", "balance b", "day R=9", "ledger", "book", "journal"} {
			want(t, d, line, done(t, twin, line)...)
		}
	}
	want(t, d, "cut 999999999", fmt.Sprint("cut ", all))
	want(t, d, "cut 0", "cut 0")
	want(t, d, "book", "today 0")
	want(t, d, "open p as a")
}

// P2302: as many positions as a book may have; a day is not told twice.
func TestFullBook(t *testing.T) {
	d := played(t, exampleTexts(), "compile swap as p")
	for n := range 256 {
		want(t, d, fmt.Sprint("open p as a", n))
	}
	before := done(t, d, "book")
	want(t, d, "open p as b", "refused 4")
	want(t, d, "open p as a0", "refused 221")
	want(t, d, "book", before...)
	want(t, d, "drop a7")
	want(t, d, "open p as b")
	want(t, d, "open p as c", "refused 4")
	want(t, d, "day")
	if told := done(t, d, "day R=6"); len(told) != 256 || told[0] != "1 a0 EUR 1" || told[255] != "1 b EUR 1" || slices.Contains(told, "1 a7 EUR 1") {
		t.Errorf("%q", told)
	}
}
