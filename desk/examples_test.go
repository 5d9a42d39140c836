package desk_test

import (
	"fmt"
	"slices"
	"strconv"
	"strings"
	"testing"

	"payoff/api"
	"payoff/desk"
)

// The examples of the chapter.

const shortRates = "day R\n0 1\n1 7\n"

// exampleTexts: those of the chapter; none is example 9's.
func exampleTexts() []api.File {
	return []api.File{
		{Name: "swap", Text: "deal swap { start 2026-01-05; observe R; contract for d in 1 .. 3 pay (EUR, R - 5); }"},
		{Name: "rates", Text: shortRates + "2 5\n3 4\n"},
		{Name: "short", Text: shortRates},
		{Name: "two", Text: "deal two { start 2026-01-05; contract accumulate s = 10 for d in 0 .. 2 by s * 2 then { pay (USD, s) and give pay (EUR, 1 / (s - 80)) }; }"},
		{Name: "none", Text: "deal swap { start 2026-01-05; contract pay (EUR, R); }"},
	}
}

// deal: the text of a deal with these parts behind its start.
func deal(parts string) string { return "deal x { start 2026-01-05; " + parts + " }" }

// made: a desk with texts.
func made(t *testing.T, files []api.File) *desk.Desk {
	t.Helper()
	d, at, e := desk.New(files)
	if e != api.OK || at != 0 || d == nil {
		t.Fatalf("New: %d, %d", at, e)
	}
	return d
}

// done: what a line tells that can be read.
func done(t *testing.T, d *desk.Desk, line string) []string {
	t.Helper()
	told, e := d.Do(line)
	if e != api.OK {
		t.Fatalf("Do(%.300q): %d", line, e)
	}
	return told
}

// want: what a line tells. An N in a line stands for any number.
func want(t *testing.T, d *desk.Desk, line string, lines ...string) {
	t.Helper()
	told := done(t, d, line)
	if len(told) != len(lines) || slices.ContainsFunc(told, func(s string) bool { return strings.Contains(s, "\n") }) {
		t.Fatalf("%q tells %q, want %q", line, told, lines)
	}
	for n := range lines {
		if !isLike(told[n], lines[n]) {
			t.Errorf("%q tells %q, want %q", line, told, lines)
		}
	}
}

func isLike(line, form string) bool {
	words, parts := strings.Split(line, " "), strings.Split(form, " ")
	if len(words) != len(parts) {
		return false
	}
	for n, part := range parts {
		v, e := strconv.Atoi(words[n])
		isNumber := e == nil && v >= 0 && strconv.Itoa(v) == words[n]
		if words[n] != part && !(part == "N" && isNumber) {
			return false
		}
	}
	return true
}

// played: a desk on which lines were played that can be read.
func played(t *testing.T, files []api.File, lines ...string) *desk.Desk {
	t.Helper()
	d := made(t, files)
	for _, line := range lines {
		done(t, d, line)
	}
	return d
}

// plenty: the desk of the examples, with p, q and t.
func plenty(t *testing.T) *desk.Desk {
	t.Helper()
	return played(t, exampleTexts(), "compile swap as p", "compile two as q", "table rates as t")
}

func TestExample1(t *testing.T) {
	d := made(t, exampleTexts())
	want(t, d, "compile swap as p", "p N bytes")
	want(t, d, "table rates as t", "t 4 rows")
	want(t, d, "run p on t", "1 EUR 2", "2 EUR 0", "3 EUR -1", "done")
	want(t, d, "mean swap on t", "1 EUR 2", "2 EUR 0", "3 EUR -1", "done")
}

func TestExample2(t *testing.T) {
	d := plenty(t)
	want(t, d, "table short as t", "t 2 rows")
	want(t, d, "run p on t", "1 EUR 2", "fault missing on day 2")
}

func TestExample3(t *testing.T) {
	d := made(t, exampleTexts())
	want(t, d, "compile two as q", "q N bytes")
	want(t, d, "table rates as t", "t 4 rows")
	want(t, d, "run q on t", "2 USD 80", "fault zero on day 2")
}

func TestExample4(t *testing.T) {
	d := plenty(t)
	want(t, d, "needs p", "1 R", "2 R", "3 R")
	want(t, d, "measure swap", "measure 4 3 3 15 0 1 2024")
}

func TestExample5(t *testing.T) {
	d := plenty(t)
	want(t, d, "start p on t as m")
	want(t, d, "step m 2", "1 EUR 2")
	want(t, d, "freeze m as z", "z N bytes")
	want(t, d, "thaw p z on t as n")
	want(t, d, "step n 9", "2 EUR 0", "3 EUR -1", "done")
	want(t, d, "step n", "refused 151")
	want(t, d, "step m", "2 EUR 0")
}

func TestExample6(t *testing.T) {
	d := plenty(t)
	want(t, d, "join p q as r", "r N bytes")
	want(t, d, "run r on t", "1 EUR 2", "2 EUR 0", "2 USD 80", "fault zero on day 2")
}

// bookOf: the desk of example 7.
func bookOf(t *testing.T) *desk.Desk {
	t.Helper()
	d := plenty(t)
	want(t, d, "open p as a")
	want(t, d, "day R=1")
	want(t, d, "open p as b")
	want(t, d, "day R=7", "1 a EUR 2")
	want(t, d, "day R=5", "2 a EUR 0", "2 b EUR 0")
	return d
}

func TestExample7(t *testing.T) {
	d := bookOf(t)
	want(t, d, "ledger", "1 a EUR 2", "2 a EUR 0", "2 b EUR 0")
	want(t, d, "balance a", "EUR 2")
	want(t, d, "book", "today 3", "a since 0 running", "b since 1 running")
}

func TestExample8(t *testing.T) {
	d := bookOf(t)
	want(t, d, "day")
	want(t, d, "book", "today 4", "a since 0 fault missing on 3", "b since 1 fault missing on 3")
	want(t, d, "drop a")
	want(t, d, "drop a", "refused 222")
	want(t, d, "open p as a", "refused 221")
}

func TestExample9(t *testing.T) {
	d := made(t, exampleTexts())
	want(t, d, "table rates as t", "t 4 rows")
	want(t, d, "compile none as p", "p type 2 0")
	want(t, d, "run p on t", "refused 222")
	want(t, d, "compile swap as p", "p N bytes")
	want(t, d, "compile none as p", "p type 2 0")
	want(t, d, "run p on t", "1 EUR 2", "2 EUR 0", "3 EUR -1", "done")
}

func TestExample10(t *testing.T) {
	d := plenty(t)
	want(t, d, "later p 10 as s", "s N bytes")
	want(t, d, "run s on t", "fault missing on day 11")
	want(t, d, "fan p on t t by 3", "EUR 2")
	want(t, d, "rename p R S as u", "u N bytes")
	want(t, d, "needs u", "1 S", "2 S", "3 S")
}

// P2303: the examples as one script.
func TestExamplesAsScript(t *testing.T) {
	got, line, e := desk.Run(exampleTexts(), "compile swap as p\n  # rates\n\ntable   rates as t \nrun p on t\nmean swap on t\nneeds p\ncut 3")
	size := 0
	fmt.Sscanf(got, "p %d bytes", &size)
	wanted := fmt.Sprintf("p %d bytes\n", size) + "t 4 rows\n" + strings.Repeat("1 EUR 2\n2 EUR 0\n3 EUR -1\ndone\n", 2) + "1 R\n2 R\n3 R\ncut 0\n"
	if got != wanted || line != 0 || e != api.OK {
		t.Errorf("%q, %d, %d, want %q", got, line, e, wanted)
	}
}
