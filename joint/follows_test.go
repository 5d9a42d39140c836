package joint_test

import (
	"math/rand"
	"slices"
	"testing"

	"payoff/api"
	"payoff/build"
	"payoff/image"
	"payoff/joint"
	"payoff/machine"
	"payoff/sample"
	"payoff/table"
	"payoff/tree"
)

// What follows of the calls: how what they answer runs.

func sameOutcome(a, b api.Outcome) bool {
	return slices.Equal(a.Flows, b.Flows) && a.Fault == b.Fault && a.Day == b.Day
}

// runOf: what a good program comes to.
func runOf(t *testing.T, p api.Program, rows [][]api.Cell) api.Outcome {
	t.Helper()
	out, e := machine.Run(p, rows)
	if e != api.OK {
		t.Fatalf("Run: %d:%s", e, shown(p))
	}
	return out
}

// columns: rows by other names, each of which stands among those of the rows.
func columns(rows [][]api.Cell, names, others []string) [][]api.Cell {
	var out [][]api.Cell
	for _, row := range rows {
		var list []api.Cell
		for _, name := range others {
			cell := api.Cell{}
			if at := slices.Index(names, name); at < len(row) {
				cell = row[at]
			}
			list = append(list, cell)
		}
		out = append(out, list)
	}
	return out
}

// laidTogether: P1905: what the outcomes of programs make together.
func laidTogether(outs []api.Outcome) api.Outcome {
	var all api.Outcome
	for day := range api.MaxHorizon + 1 {
		for _, out := range outs {
			for _, f := range out.Flows {
				if f.Day == day {
					all.Flows = append(all.Flows, f)
				}
			}
			if out.Fault != api.NoFault && out.Day == day {
				all.Fault, all.Day = out.Fault, day
				return all
			}
		}
	}
	return all
}

// P1905, P9: programs by chance, over rows by chance.
func TestSideBySide(t *testing.T) {
	t.Parallel()
	chance := rand.New(rand.NewSource(1911))
	told := tally[api.Fault]{}
	cut, partly := 0, 0
	for range 3000 {
		ps := somePrograms(chance)
		j, e := joint.Join(ps)
		if e != api.OK {
			t.Fatalf("Join: %d", e)
		}
		rows := sample.Rows(chance.Intn, chance.Intn(j.Horizon+4), len(j.Names))
		var outs []api.Outcome
		flows, faulty := 0, 0
		for _, p := range ps {
			out := runOf(t, p, columns(rows, j.Names, p.Names))
			outs = append(outs, out)
			flows += len(out.Flows)
			faulty += min(int(out.Fault), 1)
		}
		want := laidTogether(outs)
		got := runOf(t, j, rows)
		if !sameOutcome(got, want) {
			t.Fatalf("%v, want %v, of %v:%s", got, want, outs, shown(ps...))
		}
		told[got.Fault]++
		if len(got.Flows) < flows {
			cut++
		}
		if faulty > 1 {
			partly++
		}
	}
	told.want(t, 50, api.NoFault, api.Overflow, api.DivZero, api.NoObs)
	if cut < 300 || partly < 300 {
		t.Errorf("flows were cut off %d times, several had a fault %d times", cut, partly)
	}
}

// quotient: a program of some days, on each of which an amount flows, then one over an observation, and then another.
func quotient(name, cur string, days ...int) api.Program {
	p := api.Program{Names: []string{name}, Curs: []string{cur}, Pool: []int{1, 60}, Horizon: slices.Max(days), Stack: 2}
	for _, d := range days {
		p.Days = append(p.Days, day(d, instr(api.OpConst, 0), instr(api.OpFlow, 0), instr(api.OpConst, 1), instr(api.OpObs, 0, 0), instr(api.OpDiv), instr(api.OpFlow, 0), instr(api.OpConst, 0), instr(api.OpFlow, 0)))
	}
	return p
}

// P1905: which fault is the first, and which flows of its day come.
func TestFirstFault(t *testing.T) {
	a, b, c := quotient("A", "AAA", 0, 1, 2), quotient("B", "BBB", 1), quotient("C", "CCC", 0, 1)
	j, e := joint.Join([]api.Program{a, b, c})
	if e != api.OK {
		t.Fatalf("Join: %d", e)
	}
	has := func(v int) api.Cell { return api.Cell{Has: true, V: v} }
	flows := func(day int, cur string, amounts ...int) []api.Flow {
		var list []api.Flow
		for _, amount := range amounts {
			list = append(list, api.Flow{Day: day, Cur: cur, Amount: amount})
		}
		return list
	}
	day0 := append(flows(0, "AAA", 1, 30, 1), flows(0, "CCC", 1, 20, 1)...)
	first := []api.Cell{has(2), {}, has(3)}
	for n, c := range []struct {
		rows [][]api.Cell
		want api.Outcome
	}{
		{[][]api.Cell{first, {has(4), has(5), has(6)}, {has(10)}}, api.Outcome{Flows: slices.Concat(day0, flows(1, "AAA", 1, 15, 1), flows(1, "BBB", 1, 12, 1), flows(1, "CCC", 1, 10, 1), flows(2, "AAA", 1, 6, 1))}},
		{[][]api.Cell{first, {has(4), has(0), {}}, {has(0)}}, api.Outcome{Flows: slices.Concat(day0, flows(1, "AAA", 1, 15, 1), flows(1, "BBB", 1)), Fault: api.DivZero, Day: 1}},
		{[][]api.Cell{first, {has(4), has(5)}, nil}, api.Outcome{Flows: slices.Concat(day0, flows(1, "AAA", 1, 15, 1), flows(1, "BBB", 1, 12, 1), flows(1, "CCC", 1)), Fault: api.NoObs, Day: 1}},
		{[][]api.Cell{first, {{}, has(0), has(0)}}, api.Outcome{Flows: slices.Concat(day0, flows(1, "AAA", 1)), Fault: api.NoObs, Day: 1}},
		{[][]api.Cell{{has(2), {}, has(0)}, {{}, {}, {}}}, api.Outcome{Flows: append(flows(0, "AAA", 1, 30, 1), flows(0, "CCC", 1)...), Fault: api.DivZero}},
		{nil, api.Outcome{Flows: flows(0, "AAA", 1), Fault: api.NoObs}},
	} {
		if got := runOf(t, j, c.rows); !sameOutcome(got, c.want) {
			t.Errorf("case %d: %v, want %v", n, got, c.want)
		}
	}
}

// compiledDeal: a deal's text by chance, and its program.
func compiledDeal(t *testing.T, chance *rand.Rand) (string, api.Program) {
	t.Helper()
	text, e := tree.Print(sample.Deal(chance.Intn))
	if e != api.OK {
		t.Fatalf("Print: %d", e)
	}
	b, r := build.Compile(text, chance.Intn(2) == 0, chance.Intn(2) == 0)
	p, _, e := image.Decode(b)
	if r.Err != api.OK || e != api.OK {
		t.Fatalf("Compile: %v, Decode: %d", r, e)
	}
	return text, p
}

// P1904, P1905, P9: the images of deals, joined into one image that is run over a table.
func TestDealsSideBySide(t *testing.T) {
	t.Parallel()
	chance := rand.New(rand.NewSource(1912))
	told := tally[api.Fault]{}
	for range 1500 {
		in := sample.Table(chance.Intn, []string{"A", "B", "C"}, chance.Intn(40))
		var ps []api.Program
		var outs []api.Outcome
		for range 2 + chance.Intn(3) {
			text, p := compiledDeal(t, chance)
			out, r := build.Mean(text, in)
			if r.Err != api.OK {
				t.Fatalf("Mean: %v", r)
			}
			ps, outs = append(ps, p), append(outs, out)
		}
		j, e := holdJoin(t, ps...)
		b, err := image.Encode(j)
		if e != api.OK || err != api.OK {
			t.Fatalf("Join: %d, Encode: %d", e, err)
		}
		got, e := build.Run(b, in)
		if want := laidTogether(outs); e != api.OK || !sameOutcome(got, want) {
			t.Fatalf("%v, %d, want %v:%s", got, e, want, shown(ps...))
		}
		told[got.Fault]++
	}
	told.want(t, 20, api.NoFault, api.Overflow, api.DivZero, api.NoObs)
}

// P1906: programs moved by chance.
func TestLaterRuns(t *testing.T) {
	t.Parallel()
	chance := rand.New(rand.NewSource(1913))
	told := tally[api.Fault]{}
	for range 4000 {
		p := someProgram(chance)
		k := pick(chance, 0, 1, chance.Intn(20), chance.Intn(200))
		q, e := joint.Later(p, k)
		if e != api.OK {
			t.Fatalf("Later: %d", e)
		}
		rows := sample.Rows(chance.Intn, pick(chance, 0, chance.Intn(20), k, k+chance.Intn(20)), len(p.Names))
		want := runOf(t, p, rows[min(k, len(rows)):])
		for n := range want.Flows {
			want.Flows[n].Day += k
		}
		if want.Fault != api.NoFault {
			want.Day += k
		}
		if got := runOf(t, q, rows); !sameOutcome(got, want) {
			t.Fatalf("later by %d: %v, want %v:%s", k, got, want, shown(p))
		}
		told[want.Fault]++
	}
	told.want(t, 50, api.NoFault, api.Overflow, api.DivZero, api.NoObs)
}

// P1906: programs renamed by chance, over tables.
func TestRenameRuns(t *testing.T) {
	t.Parallel()
	chance := rand.New(rand.NewSource(1914))
	told := tally[api.Fault]{}
	refused := 0
	for range 4000 {
		p := someProgram(chance)
		pairs := somePairs(chance, p.Names)
		q, e := joint.Rename(p, pairs...)
		if e != api.OK {
			refused++
			continue
		}
		in := sample.Table(chance.Intn, someNames, chance.Intn(p.Horizon+4))
		rows, e := table.Bind(in, q.Names)
		if e != api.OK {
			t.Fatalf("Bind: %d", e)
		}
		become := slices.Clone(p.Names)
		for n := 0; n < len(pairs); n += 2 {
			become[slices.Index(p.Names, pairs[n])] = pairs[n+1]
		}
		want := runOf(t, p, columns(rows, q.Names, become))
		if got := runOf(t, q, rows); !sameOutcome(got, want) {
			t.Fatalf("Rename(%v): %v, want %v:%s", pairs, got, want, shown(p))
		}
		told[want.Fault]++
	}
	told.want(t, 50, api.NoFault, api.Overflow, api.DivZero, api.NoObs)
	if refused > 1000 {
		t.Errorf("%d were refused", refused)
	}
}

// P1907: three programs joined in both orders of joining, and many, cut anywhere.
func TestAssociative(t *testing.T) {
	t.Parallel()
	chance := rand.New(rand.NewSource(1915))
	for range 2000 {
		ps := append(somePrograms(chance), somePrograms(chance)...)
		whole, e := joint.Join(ps)
		if e != api.OK {
			t.Fatalf("Join: %d", e)
		}
		from := chance.Intn(len(ps))
		to := from + 1 + chance.Intn(len(ps)-from)
		part, e := joint.Join(ps[from:to])
		if e != api.OK {
			t.Fatalf("Join of some: %d", e)
		}
		wantJoin(t, whole, api.OK, slices.Concat(ps[:from], []api.Program{part}, ps[to:])...)
	}
}

// P1907: what is refused at once is refused one behind the other, too, and more than 64 can be joined so.
func TestAssociativeAtTheLimits(t *testing.T) {
	for n, ps := range [][3]api.Program{
		{adding(10000), adding(20000), adding(2769)}, {reading(manyNames(0, 30)...), reading(manyNames(20, 30)...), reading(manyNames(35, 30)...)}, {idling(0, 100000), idling(0, 100000), idling(0, api.MaxCode-200000+3)},
	} {
		first, e := joint.Join(ps[:2])
		last, err := joint.Join(ps[1:])
		if e != api.OK || err != api.OK {
			t.Fatalf("case %d: %d, %d", n, e, err)
		}
		wantJoin(t, api.Program{}, api.ErrFull, ps[:]...)
		wantJoin(t, api.Program{}, api.ErrFull, first, ps[2])
		wantJoin(t, api.Program{}, api.ErrFull, ps[0], last)
	}
	all := slices.Repeat([]api.Program{adding(3)}, 64)
	j, e := joint.Join(all)
	if e != api.OK {
		t.Fatalf("Join: %d", e)
	}
	if j, e = joint.Join(slices.Repeat([]api.Program{j}, 64)); e != api.OK || j.Cells != 64*64*3 || len(j.Days[0].Code) != 64*64*4+1 {
		t.Errorf("64 times 64: %d, %d cells", e, j.Cells)
	}
}
