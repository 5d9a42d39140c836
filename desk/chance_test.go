package desk_test

import (
	"fmt"
	"math/rand"
	"slices"
	"strings"
	"testing"

	"payoff/api"
	"payoff/asm"
	"payoff/desk"
	"payoff/sample"
	"payoff/table"
	"payoff/tree"
)

func pick[T any](chance *rand.Rand, list ...T) T { return list[chance.Intn(len(list))] }

func someDeal(t *testing.T, chance *rand.Rand) string {
	t.Helper()
	text, e := tree.Print(sample.Deal(chance.Intn))
	if e != api.OK {
		t.Fatalf("Print: %d", e)
	}
	return text
}

func someTable(t *testing.T, chance *rand.Rand, days int) string {
	t.Helper()
	text, e := table.Print(sample.Table(chance.Intn, []string{"A", "B", "C"}, days))
	if e != api.OK {
		t.Fatalf("Print: %d", e)
	}
	return text
}

// someProgram: the text of a program that can be run, or of any.
func someProgram(t *testing.T, chance *rand.Rand) string {
	t.Helper()
	p := sample.Sound(chance.Intn)
	if chance.Intn(4) == 0 {
		p = sample.Program(chance.Intn)
	}
	text, e := asm.Print(p)
	if e != api.OK {
		t.Fatalf("Print: %d", e)
	}
	return text
}

// spoilt: a text with a byte left out, or put in, or another one in its place.
func spoilt(chance *rand.Rand, text string) string {
	at := chance.Intn(len(text))
	to := at + chance.Intn(2)
	return text[:at] + pick(chance, "", "x", "0", "(", "EUR", "\n", "A", " 9 ") + text[to:]
}

var odd = []string{"", "deal x {", "day", "day A\n0 1\n0 2", "horizon 0\ncells 0\nslots 0\nstack 1\n", deal("contract delay(5000) pay(EUR, 1);"), deal("contract pay(EUR, !1);")}

// someTexts: deals a.., tables b.., programs c.., others d...
func someTexts(t *testing.T, chance *rand.Rand) []api.File {
	t.Helper()
	var files []api.File
	for n := range 4 {
		files = append(files,
			api.File{Name: fmt.Sprint("a", n), Text: someDeal(t, chance)},
			api.File{Name: fmt.Sprint("b", n), Text: someTable(t, chance, chance.Intn(20))},
			api.File{Name: fmt.Sprint("c", n), Text: someProgram(t, chance)},
			api.File{Name: fmt.Sprint("d", n), Text: pick(chance, odd...)})
	}
	for n := range files {
		if chance.Intn(12) == 0 && files[n].Text != "" {
			files[n].Text = spoilt(chance, files[n].Text)
		}
	}
	chance.Shuffle(len(files), func(a, b int) { files[a], files[b] = files[b], files[a] })
	return files
}

// somePairs: what a day tells.
func somePairs(chance *rand.Rand) string {
	pairs := ""
	for _, name := range []string{"A", "B", "C", "S", "B_1", "Z9", "A"} {
		if chance.Intn(3) > 0 && (name != "A" || chance.Intn(6) > 0) {
			pairs += fmt.Sprint(" ", name, "=", chance.Intn(19)-9)
		}
	}
	return pairs
}

// firstLines make things of each kind, if the texts let them.
var firstLines = []string{"compile a0 as p", "compile a1 as q", "assemble c0 as r", "table b0 as t", "table b1 as u", "start p on t as m", "start q on u as n", "step m", "freeze m as y", "freeze n as z", "open p as p", "open r as q"}

// someLine: a line of any command; most of what it names may be there.
func someLine(chance *rand.Rand) string {
	forms := []string{
		"compile A as P%", "compile A as P%", "compile A as P%", "compile F as P", "assemble C as P", "assemble C as P", "assemble F as P",
		"table B as T", "table B as T", "table F as T", "print A", "print F", "list P", "measure A", "measure F",
		"run P on T", "run P on T", "mean A on T", "mean F on T", "needs P", "proof P",
		"join P P as P", "join P as P", "join P P P as P", "later P D as P", "rename P O O as P",
		"start P on T as M", "start P on T as M", "step M", "step M D", "step M D", "step M D", "freeze M as Z", "freeze M as Z", "thaw P Z on T as M", "thaw P Z on T as M",
		"fan P on T by D", "fan P on T T by D", "fan P on T T T T by D", "open P as N", "open P as N", "drop N",
		"day$", "day$", "day$", "day$", "book", "balance N", "ledger", "cut L", "journal", "compact", "", "# P",
	}
	line := ""
	for _, r := range pick(chance, forms...) {
		switch r {
		case 'A', 'B', 'C':
			line += fmt.Sprint(strings.ToLower(string(r)), chance.Intn(4))
		case 'F':
			line += fmt.Sprint(pick(chance, "a", "b", "c", "d", "d", "e"), chance.Intn(4))
		case 'P', 'N':
			line += pick(chance, "p", "q", "r")
		case 'T':
			line += pick(chance, "t", "u")
		case 'M':
			line += pick(chance, "m", "n")
		case 'Z':
			line += pick(chance, "y", "z")
		case 'D':
			line += fmt.Sprint(pick(chance, 0, 1, 2, 3, chance.Intn(25), 3660))
		case 'L':
			line += fmt.Sprint(pick(chance, chance.Intn(900), 99999, 999999999))
		case 'O':
			line += pick(chance, "A", "B", "C", "S")
		case '%':
			line += pick(chance, "", " nofold", " noshare", " nofold noshare")
		case '$':
			line += somePairs(chance)
		case ' ':
			line += pick(chance, " ", " ", " ", "   ")
		default:
			line += string(r)
		}
	}
	return pick(chance, "", "", " ") + line + pick(chance, "", "", "  ")
}

// changed: a line with a word left out, put in, or another one in its place.
func changed(chance *rand.Rand, line string) string {
	words := strings.Fields(line)
	word := pick(chance, "as", "on", "by", "p", "t", "m", "0", "00", "7", "-1", "A", "A=1", "A=-0", "deal", "nofold", "noshare", "#", "book", "P", "\t", "1234567890")
	if len(words) == 0 {
		return word
	}
	at := chance.Intn(len(words))
	switch chance.Intn(4) {
	case 0:
		words = slices.Delete(words, at, at+1)
	case 1:
		words = slices.Insert(words, at, word)
	case 2:
		words[at] = word
	case 3:
		words[at] += pick(chance, "_", "A", "=", "\x00", "\n", strings.Repeat("x", 31), strings.Repeat("0", 9))
	}
	return strings.Join(words, " ")
}

// commandOf: a line's first word.
func commandOf(line string) string {
	word, _, _ := strings.Cut(strings.TrimLeft(line, " "), " ")
	return word
}

// P2302: lines by chance: what each tells, and what it leaves behind.
func TestLinesByChance(t *testing.T) {
	t.Parallel()
	chance := rand.New(rand.NewSource(2301))
	done, failed := map[string]int{}, map[string]int{}
	for range 400 {
		b := newBoth(t, someTexts(t, chance))
		lines := slices.Clone(firstLines)
		for range 60 {
			lines = append(lines, someLine(chance))
		}
		for _, line := range lines[chance.Intn(2)*len(firstLines):] {
			told, _ := b.do(t, line)
			if len(told) == 1 && strings.HasPrefix(told[0], "refused ") {
				failed[commandOf(line)]++
			} else {
				done[commandOf(line)]++
			}
		}
	}
	for command := range patterns {
		never := slices.Contains([]string{"ledger", "book", "journal", "cut", "compact"}, command)
		if done[command] < 50 || !never && failed[command] < 40 {
			t.Errorf("%s was done %d times, and refused %d times", command, done[command], failed[command])
		}
	}
}

// P2302: lines with something changed in them: which of them are commands.
func TestChangedLines(t *testing.T) {
	t.Parallel()
	chance := rand.New(rand.NewSource(2302))
	told := map[api.Errno]int{}
	for range 100 {
		b := newBoth(t, someTexts(t, chance))
		for range 150 {
			line := someLine(chance)
			if chance.Intn(2) == 0 {
				line = changed(chance, line)
			}
			_, e := b.do(t, line)
			told[e]++
		}
	}
	if told[api.OK] < 5000 || told[api.ErrCommand] < 3000 {
		t.Errorf("%v", told)
	}
}

// P2303, P2304: scripts by chance: what Run tells is what the lines tell, one behind the other.
func TestScriptsByChance(t *testing.T) {
	t.Parallel()
	chance := rand.New(rand.NewSource(2303))
	told := map[api.Errno]int{}
	for range 300 {
		files := someTexts(t, chance)
		var lines []string
		for range chance.Intn(40) {
			lines = append(lines, someLine(chance))
			if chance.Intn(60) == 0 {
				lines = append(lines, changed(chance, someLine(chance)))
			}
		}
		script := strings.Join(lines, "\n") + pick(chance, "", "\n", "\n\n")
		holdRun(t, files, script)
		_, _, e := desk.Run(files, script)
		told[e]++
	}
	if told[api.OK] < 100 || told[api.ErrCommand] < 60 {
		t.Errorf("%v", told)
	}
}

// holdRun holds Run against the plain reading, twice.
func holdRun(t *testing.T, files []api.File, script string) {
	t.Helper()
	want, wantLine, wantE := plainRun(files, script)
	for range 2 {
		got, line, e := desk.Run(files, script)
		if got != want || line != wantLine || e != wantE {
			t.Fatalf("Run(%.3000q) = %.3000q, %d, %d, want %.3000q, %d, %d", script, got, line, e, want, wantLine, wantE)
		}
	}
}

// P2301 to P2304: whatever the texts and the script are.
func FuzzRun(f *testing.F) {
	for _, script := range []string{
		"compile x as p nofold\ntable y as t\nrun p on t\nmean x on t\nneeds p\nproof p\nlist p",
		"assemble x as p\nopen p as a\nday A=1 B=-2\nbook\nledger\nbalance a\ncut 60\njournal\ncompact\ndrop a",
		"compile x as p\njoin p p as q\nlater q 3 as r\nrename r A B as s\ntable y as t\nfan s on t t by 2\nstart s on t as m\nstep m 2\nfreeze m as z\nthaw s z on t as n\nstep n 99",
		"print x\nmeasure x\n# x\n\n  book  \nstep m\nfreeze m as z",
	} {
		f.Add(deal("observe A; contract for d in 1..3 pay(EUR, A / d);"), "day A B\n0 1 2\n3 - 4\n", script)
		f.Add("names A\ncurs EUR\nhorizon 0\ncells 0\nslots 0\nstack 1\nday 0\n  obs A 0\n  flow EUR\n  end\n", "day A", script)
	}
	f.Fuzz(func(t *testing.T, x, y, script string) {
		if len(script) <= 65536 && strings.Count(script, "\n") < 2000 {
			holdRun(t, []api.File{{Name: "x", Text: x}, {Name: "y", Text: y}}, script)
		}
	})
}
