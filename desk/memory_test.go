package desk_test

import (
	"bytes"
	"fmt"
	"math/rand"
	"reflect"
	"slices"
	"strings"
	"sync"
	"testing"
	"unsafe"

	"payoff/api"
	"payoff/desk"
)

// spareFiles gives a list of texts spare room, with something in it.
func spareFiles(files []api.File) []api.File {
	mark := api.File{Name: "mark", Text: "mark"}
	return append(append(make([]api.File, 0, len(files)+2), files...), mark, mark)[:len(files)]
}

// of: a text over bytes that are changed later.
func of(b []byte) string { return unsafe.String(unsafe.SliceData(b), len(b)) }

// P2301: what is handed in is not changed and not kept, names and texts neither.
func TestTextsAreNotKept(t *testing.T) {
	var files []api.File
	var all [][]byte
	for _, f := range exampleTexts() {
		name, text := []byte(f.Name), []byte(f.Text)
		all = append(all, name, text)
		files = append(files, api.File{Name: of(name), Text: of(text)})
	}
	given := spareFiles(files)
	d := made(t, given)
	if again := spareFiles(exampleTexts()); !slices.Equal(given[:len(given)+2], again[:len(again)+2]) {
		t.Error("what was handed in has changed")
	}
	for _, b := range all {
		copy(b, bytes.Repeat([]byte("?"), len(b)))
	}
	clear(given[:cap(given)])
	want(t, d, "compile swap as p", "p N bytes")
	want(t, d, "table rates as t", "t 4 rows")
	want(t, d, "run p on t", "1 EUR 2", "2 EUR 0", "3 EUR -1", "done")
	want(t, d, "mean two on t", "2 USD 80", "fault zero on day 2")
}

// P2302: nor is a line.
func TestLinesAreNotKept(t *testing.T) {
	d := made(t, exampleTexts())
	for _, line := range []string{"compile swap as pp", "table rates as tt", "start pp on tt as mm", "step mm 2", "freeze mm as zz", "open pp as aa", "day R=1", "day R=9", "rename pp R S as qq"} {
		b := []byte(line)
		if _, e := d.Do(of(b)); e != api.OK {
			t.Fatalf("Do(%q): %d", line, e)
		}
		copy(b, bytes.Repeat([]byte("?"), len(b)))
	}
	want(t, d, "run pp on tt", "1 EUR 2", "2 EUR 0", "3 EUR -1", "done")
	want(t, d, "step mm", "2 EUR 0")
	want(t, d, "thaw pp zz on tt as nn")
	want(t, d, "step nn", "2 EUR 0")
	want(t, d, "book", "today 2", "aa since 0 running")
	want(t, d, "ledger", "1 aa EUR 4")
	want(t, d, "balance aa", "EUR 4")
	want(t, d, "needs qq", "1 S", "2 S", "3 S")
}

// P2302: what is told is new memory, each time, and may be written over.
func TestToldIsNew(t *testing.T) {
	t.Parallel()
	chance := rand.New(rand.NewSource(2321))
	shared := 0
	for range 60 {
		b := newBoth(t, someTexts(t, chance))
		from := map[uintptr]bool{}
		var kept [][]string
		for range 60 {
			line := someLine(chance)
			told, _ := b.do(t, line)
			kept = append(kept, told)
			if cap(told) > 0 {
				place := reflect.ValueOf(told).Pointer()
				if from[place] {
					shared++
				}
				from[place] = true
			}
			told = told[:cap(told)]
			for n := range told {
				told[n] = "written over"
			}
		}
		for _, told := range kept {
			if slices.ContainsFunc(told, func(s string) bool { return s != "written over" }) {
				t.Fatal("what was told has changed")
			}
		}
	}
	if shared > 0 {
		t.Errorf("%d lists share memory", shared)
	}
}

// P2304: desks know nothing of each other, also those of the same texts, side by side; the same lines tell the same.
func TestDesksShareNothing(t *testing.T) {
	chance := rand.New(rand.NewSource(2322))
	files := someTexts(t, chance)
	lines := slices.Clone(firstLines)
	for range 120 {
		lines = append(lines, someLine(chance))
	}
	plain, _, _ := plainNew(files)
	var told [][]string
	for _, line := range lines {
		lines, _ := plain.do(line)
		told = append(told, lines)
	}
	all, _, _ := desk.Run(files, strings.Join(lines, "\n"))
	var group sync.WaitGroup
	for range 8 {
		group.Go(func() {
			d, _, _ := desk.New(files)
			for n, line := range lines {
				if got, e := d.Do(line); e != api.OK || !slices.Equal(got, told[n]) {
					t.Errorf("Do(%q) = %q, %d, want %q", line, got, e, told[n])
					return
				}
			}
			if got, _, e := desk.Run(files, strings.Join(lines, "\n")); e != api.OK || got != all {
				t.Errorf("Run = %q, %d, want %q", got, e, all)
			}
		})
	}
	group.Wait()
	// A desk on which much was done leaves nothing on another one.
	d := made(t, files)
	want(t, d, "book", "today 0")
	for _, line := range []string{"list p", "run p on t", "step m", "thaw p z on t as m", "balance a", "mean a0 on t"} {
		want(t, d, line, "refused 222")
	}
}

// P2304: whatever is handed in, no call panics, and an answer comes.
func TestAnything(t *testing.T) {
	t.Parallel()
	chance := rand.New(rand.NewSource(2323))
	d := plenty(t)
	for range 20000 {
		junk := make([]byte, chance.Intn(250))
		for n := range junk {
			junk[n] = pick(chance, ' ', ' ', 'p', 'a', 's', '=', '#', '\n', '0', '9', '-', 'A', byte(chance.Intn(256)))
		}
		line := string(junk)
		if chance.Intn(2) == 0 {
			line = pick(chance, firstLines...) + line
		}
		told, e := d.Do(line)
		if e != api.OK && (len(told) > 0 || (e == api.ErrLong) != (len(line) > 200) || e != api.ErrLong && e != api.ErrCommand) {
			t.Fatalf("Do(%q) = %q, %d", line, told, e)
		}
		desk.New([]api.File{{Name: line, Text: line}, {Name: fmt.Sprint("a", chance.Intn(9)), Text: line}})
		desk.Run([]api.File{{Name: "a0", Text: line}, {Name: "b0", Text: line}, {Name: "c0", Text: line}}, line)
		desk.Run([]api.File{{Name: "a0", Text: line}, {Name: "b0", Text: line}, {Name: "c0", Text: line}}, "compile a0 as p\nassemble c0 as p\ntable b0 as t\nprint a0\nmeasure a0\nmean a0 on t\nrun p on t")
	}
}
