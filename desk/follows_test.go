package desk_test

import (
	"fmt"
	"math/rand"
	"slices"
	"strings"
	"testing"

	"payoff/api"
	"payoff/desk"
)

var settings = []string{"", " nofold", " noshare", " nofold noshare"}

// ends: how often runs came to each end.
type ends map[string]int

func (n ends) add(told []string) {
	words := strings.Fields(told[len(told)-1])
	n[words[min(1, len(words)-1)]]++
	n["flows"] += len(told) - 1
}

func (n ends) wantAll(t *testing.T, count int) {
	t.Helper()
	for _, end := range []string{"done", "overflow", "zero", "missing", "flows"} {
		if n[end] < count {
			t.Errorf("%s came %d times", end, n[end])
		}
	}
}

// dealAndTables: the text f of a deal, and the tables t0 to t3 on the desk.
func dealAndTables(t *testing.T, chance *rand.Rand) []api.File {
	t.Helper()
	files := []api.File{{Name: "f", Text: someDeal(t, chance)}}
	for n := range 4 {
		days := pick(chance, 0, chance.Intn(8), 10+chance.Intn(30))
		files = append(files, api.File{Name: fmt.Sprint("t", n), Text: someTable(t, chance, days)})
	}
	return files
}

func tabled(t *testing.T, files []api.File) *desk.Desk {
	t.Helper()
	d := made(t, files)
	for n := range 4 {
		done(t, d, fmt.Sprintf("table t%d as t%d", n, n))
	}
	return d
}

// P2305, P2, P7: what is compiled, with each of the settings, and run tells what the text means.
func TestRunTellsWhatMeanTells(t *testing.T) {
	t.Parallel()
	chance := rand.New(rand.NewSource(2305))
	all := ends{}
	for range 600 {
		d := tabled(t, dealAndTables(t, chance))
		for n, setting := range settings {
			want(t, d, fmt.Sprint("compile f as p", n, setting), fmt.Sprintf("p%d N bytes", n))
		}
		for n := range 4 {
			means := done(t, d, fmt.Sprint("mean f on t", n))
			all.add(means)
			for p := range settings {
				want(t, d, fmt.Sprintf("run p%d on t%d", p, n), means...)
			}
		}
	}
	all.wantAll(t, 5)
}

// P2305, P8: what is started and steps until it is over tells the same, frozen and thawed between or not.
func TestStepsTellWhatRunTells(t *testing.T) {
	t.Parallel()
	chance := rand.New(rand.NewSource(2306))
	all, thawed := ends{}, 0
	for range 500 {
		d := tabled(t, dealAndTables(t, chance))
		done(t, d, "compile f as p"+pick(chance, settings...))
		for n := range 4 {
			want := done(t, d, fmt.Sprint("run p on t", n))
			all.add(want)
			done(t, d, fmt.Sprintf("start p on t%d as m", n))
			var told []string
			for !slices.Equal(done(t, d, "step m 0"), []string{"refused 151"}) {
				for range chance.Intn(3) {
					done(t, d, "freeze m as z")
					done(t, d, fmt.Sprintf("thaw p z on t%d as m", n))
					thawed++
				}
				told = append(told, done(t, d, "step m"+pick(chance, "", " 1", " 2", fmt.Sprint(" ", chance.Intn(30))))...)
			}
			if !slices.Equal(told, want) {
				t.Fatalf("steps tell %q, want %q", told, want)
			}
		}
	}
	all.wantAll(t, 5)
	if thawed < 3000 {
		t.Errorf("thawed %d times", thawed)
	}
}

// P2305, P5: a program that is listed and assembled again tells the same.
func TestListedAndAssembled(t *testing.T) {
	t.Parallel()
	chance := rand.New(rand.NewSource(2307))
	for range 300 {
		files := dealAndTables(t, chance)
		d := tabled(t, files)
		sized := done(t, d, "compile f as p"+pick(chance, settings...))
		again := tabled(t, append(files, api.File{Name: "l", Text: listed(t, d, "p")}))
		want(t, again, "assemble l as p", sized...)
		for _, line := range []string{"list p", "needs p", "proof p", "run p on t0", "run p on t1", "run p on t2", "run p on t3"} {
			want(t, again, line, done(t, d, line)...)
		}
	}
}

// someDay: what a day of the book tells.
func someDay(chance *rand.Rand) string {
	line := "day"
	for _, name := range []string{"A", "B", "C"} {
		if chance.Intn(9) > 0 {
			line += fmt.Sprintf(" %s=%d", name, chance.Intn(19)-9)
		}
	}
	return line
}

// someEvent: a line that changes a book.
func someEvent(chance *rand.Rand) string {
	switch chance.Intn(7) {
	case 0, 1:
		return fmt.Sprintf("open p%d as %s", chance.Intn(4), pick(chance, "a", "b", "c", "d", "e", "f"))
	case 2:
		return "drop " + pick(chance, "a", "b", "c", "d", "e", "f")
	}
	return someDay(chance)
}

// compiled: a desk with the programs p0 to p3 of deals by chance.
func compiled(t *testing.T, files []api.File) *desk.Desk {
	t.Helper()
	d := made(t, files)
	for n := range 4 {
		done(t, d, fmt.Sprintf("compile f%d as p%d", n, n))
	}
	return d
}

func fourDeals(t *testing.T, chance *rand.Rand) []api.File {
	t.Helper()
	var files []api.File
	for n := range 4 {
		files = append(files, api.File{Name: fmt.Sprint("f", n), Text: someDeal(t, chance)})
	}
	return files
}

// tellings: all that is asked of a book.
func tellings(t *testing.T, d *desk.Desk) []string {
	t.Helper()
	var all []string
	for _, line := range []string{"book", "ledger", "balance a", "balance b", "balance c", "balance d", "balance e", "balance f"} {
		all = append(append(all, line), done(t, d, line)...)
	}
	return all
}

// P2306, P11: the ledger of a book is what its day lines told.
func TestLedgerIsWhatDaysTold(t *testing.T) {
	t.Parallel()
	chance := rand.New(rand.NewSource(2308))
	entries := 0
	for range 150 {
		d := compiled(t, fourDeals(t, chance))
		var told []string
		for range 60 {
			line := someEvent(chance)
			lines := done(t, d, line)
			if commandOf(line) == "day" {
				told = append(told, lines...)
			}
			if chance.Intn(20) == 0 {
				want(t, d, "compact")
			}
		}
		want(t, d, "ledger", told...)
		entries += len(told)
	}
	if entries < 500 {
		t.Errorf("%d entries", entries)
	}
}

// P2306, P11: a book that is cut where a record ends, or behind that, goes on as the one that was there.
func TestCutGoesOn(t *testing.T) {
	t.Parallel()
	chance := rand.New(rand.NewSource(2309))
	for range 150 {
		files := fourDeals(t, chance)
		d := compiled(t, files)
		var lines, sizes []string
		for range 25 {
			line := someEvent(chance)
			if told := done(t, d, line); len(told) == 1 && strings.HasPrefix(told[0], "refused") {
				continue
			}
			lines = append(lines, line)
			sizes = append(sizes, strings.Fields(done(t, d, "journal")[0])[1])
		}
		last := chance.Intn(len(lines))
		var size int
		fmt.Sscan(sizes[last], &size)
		beyond := 0
		if last+1 < len(lines) {
			var next int
			fmt.Sscan(sizes[last+1], &next)
			beyond = chance.Intn(next - size)
		}
		want(t, d, fmt.Sprint("cut ", size+beyond), fmt.Sprint("cut ", size))
		there := compiled(t, files)
		for _, line := range lines[:last+1] {
			done(t, there, line)
		}
		for range 12 {
			want(t, d, "journal", done(t, there, "journal")...)
			if got, wanted := tellings(t, d), tellings(t, there); !slices.Equal(got, wanted) {
				t.Fatalf("%q, want %q", got, wanted)
			}
			line := someEvent(chance)
			want(t, d, line, done(t, there, line)...)
		}
	}
}

// P11: Compact changes nothing that a line tells, but the journal.
func TestCompactChangesNothing(t *testing.T) {
	t.Parallel()
	chance := rand.New(rand.NewSource(2310))
	for range 120 {
		files := fourDeals(t, chance)
		d, plain := compiled(t, files), compiled(t, files)
		for range 40 {
			line := someEvent(chance)
			want(t, d, line, done(t, plain, line)...)
			if chance.Intn(4) == 0 {
				want(t, d, "compact")
				size := done(t, d, "journal")
				want(t, d, "compact")
				want(t, d, "journal", size...)
			}
			if chance.Intn(6) == 0 {
				want(t, d, "cut 999999999", "cut N")
			}
		}
		if got, wanted := tellings(t, d), tellings(t, plain); !slices.Equal(got, wanted) {
			t.Fatalf("%q, want %q", got, wanted)
		}
		// Cut inside the group the book is empty.
		want(t, d, "compact")
		var size int
		fmt.Sscanf(done(t, d, "journal")[0], "journal %d", &size)
		want(t, d, fmt.Sprint("cut ", 8+chance.Intn(size-8)), "cut 8")
		want(t, d, "book", "today 0")
		want(t, d, "ledger")
	}
}
