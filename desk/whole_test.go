package desk_test

import (
	"cmp"
	"fmt"
	"math/rand"
	"slices"
	"strconv"
	"strings"
	"testing"

	"payoff/api"
	"payoff/asm"
	"payoff/sample"
	"payoff/table"
	"payoff/tree"
)

// The promises of the whole, as scripts tell them. (P2, P7, P8 and P11 stand with P2305 and P2306.)

// P4: what is compiled is no longer than its measure says, and within the limits; what is not says why, with each of the settings.
func TestCompiledAsMeasured(t *testing.T) {
	t.Parallel()
	chance := rand.New(rand.NewSource(41))
	told := map[string]int{}
	for range 1500 {
		text := someDeal(t, chance)
		for range chance.Intn(3) {
			text = spoilt(chance, text)
		}
		d := made(t, []api.File{{Name: "f", Text: text}})
		for _, setting := range settings {
			first := strings.Fields(done(t, d, "compile f as p"+setting)[0])
			measure := strings.Fields(done(t, d, "measure f")[0])
			how := first[1]
			if first[len(first)-1] == "bytes" {
				how = "bytes"
			}
			told[how]++
			right := false
			switch how {
			case "bytes":
				size, _ := strconv.Atoi(first[1])
				most, _ := strconv.Atoi(measure[7])
				right = measure[0] == "measure" && size <= most
			case "limit":
				right = slices.Equal(first[2:], measure[1:])
			case "type":
				right = slices.Equal(measure, []string{"refused", "81"})
			case "syntax":
				right = slices.Equal(measure, []string{"place", first[2], "refused", "71"})
			}
			if !right {
				t.Fatalf("%q: %q, %q", text, first, measure)
			}
		}
	}
	if told["bytes"] < 400 || told["type"] < 100 || told["syntax"] < 400 {
		t.Errorf("%v", told)
	}
}

// P5: what is printed is printed once more as it is, and means the same.
func TestPrintedOnceMore(t *testing.T) {
	t.Parallel()
	chance := rand.New(rand.NewSource(51))
	for range 300 {
		files := dealAndTables(t, chance)
		d := tabled(t, files)
		printed := strings.Join(done(t, d, "print f"), "\n") + "\n"
		again := tabled(t, append(files, api.File{Name: "g", Text: strings.ReplaceAll(printed, " ", " \t\n# x\n ")}))
		want(t, again, "print g", strings.Split(strings.TrimSuffix(printed, "\n"), "\n")...)
		want(t, again, "measure g", done(t, d, "measure f")...)
		for n := range 4 {
			want(t, again, fmt.Sprint("mean g on t", n), done(t, d, fmt.Sprint("mean f on t", n))...)
		}
	}
}

// upTo: the lines of an outcome, flows or a fault, of days up to one.
func upTo(told []string, last int) []string {
	var list []string
	for _, line := range told {
		words := strings.Fields(line)
		day := words[0]
		if words[0] == "fault" {
			day = words[4]
		}
		if n, e := strconv.Atoi(day); e == nil && n <= last {
			list = append(list, line)
		}
	}
	return list
}

// P6: what a table says behind a day changes nothing up to it; no flow is behind the measure's horizon.
func TestNoLookAhead(t *testing.T) {
	t.Parallel()
	chance := rand.New(rand.NewSource(61))
	unlike := 0
	for range 600 {
		one, two := sample.Table(chance.Intn, []string{"A", "B", "C"}, chance.Intn(20)), sample.Table(chance.Intn, []string{"A", "B", "C"}, chance.Intn(20))
		last := chance.Intn(6)
		head, _ := table.Cut(one, last+1)
		two.Names, two.Rows = one.Names, slices.Clone(two.Rows)
		for n := range two.Rows {
			row := make([]api.Cell, len(one.Names))
			copy(row, two.Rows[n])
			two.Rows[n] = row
		}
		for len(head.Rows) < last+1 {
			head.Rows = append(head.Rows, make([]api.Cell, len(one.Names)))
		}
		two.Rows = append(head.Rows, two.Rows[min(last+1, len(two.Rows)):]...)
		texts := []api.File{{Name: "f", Text: someDeal(t, chance)}, {Name: "one", Text: tableText(t, one)}, {Name: "two", Text: tableText(t, two)}}
		d := played(t, texts, "compile f as p", "table one as t", "table two as u")
		runs := [][]string{done(t, d, "run p on t"), done(t, d, "run p on u")}
		if !slices.Equal(upTo(runs[0], last), upTo(runs[1], last)) {
			t.Fatalf("%q up to %d: %q, %q", texts, last, runs[0], runs[1])
		}
		if !slices.Equal(runs[0], runs[1]) {
			unlike++
		}
		horizon, _ := strconv.Atoi(strings.Fields(done(t, d, "measure f")[0])[2])
		for _, run := range runs {
			if all := upTo(run, horizon); len(all) != len(run) && !(len(all) == len(run)-1 && run[len(run)-1] == "done") {
				t.Fatalf("%q: %q behind %d", texts, run, horizon)
			}
		}
	}
	if unlike < 40 {
		t.Errorf("%d pairs of runs alone that are not the same", unlike)
	}
}

func tableText(t *testing.T, x api.Table) string {
	t.Helper()
	text, e := table.Print(x)
	if e != api.OK {
		t.Fatalf("Print: %d", e)
	}
	return text
}

// dayOf: the day of an outcome's line that tells a flow or a fault.
func dayOf(line string) int {
	words := strings.Fields(line)
	day, e := strconv.Atoi(words[0])
	if e != nil {
		day, _ = strconv.Atoi(words[4])
	}
	return day
}

// joined: outcomes laid together by day, up to the first fault.
func joined(outcomes [][]string) []string {
	type part struct {
		line    string
		program int
	}
	var all []part
	for program, told := range outcomes {
		for _, line := range told {
			if line != "done" {
				all = append(all, part{line, program})
			}
		}
	}
	slices.SortStableFunc(all, func(a, b part) int {
		return cmp.Or(cmp.Compare(dayOf(a.line), dayOf(b.line)), cmp.Compare(a.program, b.program))
	})
	var told []string
	for _, p := range all {
		told = append(told, p.line)
		if strings.HasPrefix(p.line, "fault") {
			return told
		}
	}
	return append(told, "done")
}

// P9: programs that are joined, and moved, run side by side as each by itself.
func TestJoinedRuns(t *testing.T) {
	t.Parallel()
	chance := rand.New(rand.NewSource(91))
	all := ends{}
	for range 400 {
		files := append(fourDeals(t, chance), api.File{Name: "obs", Text: someTable(t, chance, 5+chance.Intn(40))})
		d := compiled(t, files)
		done(t, d, "table obs as t")
		for n := range 4 {
			if chance.Intn(3) == 0 {
				done(t, d, fmt.Sprintf("later p%d %d as p%d", n, chance.Intn(6), n))
			}
		}
		line, runs := "join", [][]string(nil)
		for range 1 + chance.Intn(5) {
			name := fmt.Sprint("p", chance.Intn(4))
			line += " " + name
			runs = append(runs, done(t, d, "run "+name+" on t"))
		}
		want(t, d, line+" as r", "r N bytes")
		want(t, d, "run r on t", joined(runs)...)
		all.add(joined(runs))
	}
	all.wantAll(t, 5)
}

// P10: a fan tells the same whatever the number of workers: the first that faults, or what the runs come to.
func TestFansOfAnyWorkers(t *testing.T) {
	t.Parallel()
	chance := rand.New(rand.NewSource(101))
	faults, sums := 0, 0
	for range 200 {
		d := tabled(t, dealAndTables(t, chance))
		done(t, d, "compile f as p")
		line := "fan p on"
		var runs [][]string
		for range 1 + chance.Intn(8) {
			n := chance.Intn(4)
			line += fmt.Sprint(" t", n)
			runs = append(runs, done(t, d, fmt.Sprint("run p on t", n)))
		}
		first := slices.IndexFunc(runs, func(run []string) bool { return run[len(run)-1] != "done" })
		told := done(t, d, line+" by 1")
		if first >= 0 {
			faults++
			fault := strings.Fields(runs[first][len(runs[first])-1])[1]
			want(t, d, line+" by 1", fmt.Sprint("scenario ", first), "fault "+fault)
		} else if len(told) > 0 {
			sums++
		}
		for workers := 2; workers <= 16; workers++ {
			want(t, d, fmt.Sprint(line, " by ", workers), told...)
		}
	}
	if faults < 30 || sums < 30 {
		t.Errorf("%d with a fault, %d with sums", faults, sums)
	}
}

// P12: of an if, and of a when, only one side's flows come; of a when's first side on one day alone.
func TestOneBranch(t *testing.T) {
	t.Parallel()
	chance := rand.New(rand.NewSource(121))
	sides := map[string]int{}
	for range 1500 {
		deal := sample.Deal(chance.Intn)
		one, two := sample.Paying(deal.Body, "ONE"), sample.Paying(deal.Body, "TWO")
		if !slices.Contains(deal.Names, "A") {
			deal.Names = append(deal.Names, "A")
		}
		above := api.Expr{Op: api.XGt, Kids: []api.Expr{{Op: api.XObs, Name: "A"}, {Op: api.XNum, Num: chance.Intn(9)}}}
		if chance.Intn(2) == 0 {
			deal.Body = api.Con{Kind: api.CIf, Exprs: []api.Expr{above}, Kids: []api.Con{one, two}}
		} else {
			now := api.Con{Kind: api.CPay, Cur: "ONE", Exprs: []api.Expr{{Op: api.XDay}}}
			deal.Body = api.Con{Kind: api.CWhen, Num: chance.Intn(8), Exprs: []api.Expr{above}, Kids: []api.Con{now, {Kind: api.CPay, Cur: "TWO", Exprs: []api.Expr{{Op: api.XDay}}}}}
		}
		text, e := tree.Print(deal)
		if e != api.OK {
			t.Fatalf("Print: %d", e)
		}
		d := played(t, []api.File{{Name: "f", Text: text}, {Name: "obs", Text: someTable(t, chance, 10)}}, "table obs as t", "compile f as p")
		if told := done(t, d, "compile f as p"); told[0][:2] != "p " || !strings.HasSuffix(told[0], "bytes") {
			continue // the sides together are too great, or look at days that are not there
		}
		run := done(t, d, "run p on t")
		has := func(cur string) int {
			return len(slices.DeleteFunc(slices.Clone(run), func(line string) bool { return !strings.Contains(line, " "+cur+" ") }))
		}
		if has("ONE") > 0 && has("TWO") > 0 || deal.Body.Kind == api.CWhen && has("ONE")+has("TWO") > 1 {
			t.Fatalf("%q: %q", text, run)
		}
		for _, side := range []string{"ONE", "TWO"} {
			if has(side) > 0 {
				sides[fmt.Sprint(side, deal.Body.Kind)]++
			}
		}
	}
	for _, side := range []string{"ONE8", "TWO8", "ONE12", "TWO12"} {
		if sides[side] < 40 {
			t.Errorf("%v", sides)
		}
	}
}

// P1, P3: programs of any code, their texts spoilt or not: each is refused, or is run.
func TestProgramsOfAnyCode(t *testing.T) {
	t.Parallel()
	chance := rand.New(rand.NewSource(31))
	told := map[string]int{}
	for range 3000 {
		p := sample.Sound(chance.Intn)
		for range chance.Intn(3) {
			if len(p.Days) > 0 {
				s := &p.Days[chance.Intn(len(p.Days))]
				i := &s.Code[chance.Intn(len(s.Code)-1)]
				*i = api.Instr{Op: 1 + chance.Intn(28), A: chance.Intn(3), B: 0}
			}
		}
		text, e := asm.Print(p)
		if e != api.OK {
			continue
		}
		if chance.Intn(4) == 0 {
			text = spoilt(chance, text)
		}
		d := played(t, []api.File{{Name: "f", Text: text}, {Name: "obs", Text: "day A S\n0 1 2\n1 0 -7\n2 - 1\n3 4 4\n"}}, "table obs as t")
		words := strings.Fields(done(t, d, "assemble f as p")[0])
		if words[len(words)-1] != "bytes" {
			told[words[1]]++
			want(t, d, "run p on t", "refused 222")
			continue
		}
		told["run"]++
		run := done(t, d, "run p on t")
		if end := run[len(run)-1]; end != "done" && !strings.HasPrefix(end, "fault ") {
			t.Fatalf("%q: %q", text, run)
		}
	}
	if told["run"] < 500 || told["refused"] < 250 || told["line"] < 100 {
		t.Errorf("%v", told)
	}
}
