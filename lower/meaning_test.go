package lower_test

import (
	"math/rand"
	"slices"
	"testing"

	"payoff/api"
	"payoff/dag"
	"payoff/image"
	"payoff/machine"
	"payoff/sample"
	"payoff/verify"
)

// bound: rows by a form's names as rows by a program's.
func bound(n api.Normal, p api.Program, rows [][]api.Cell) [][]api.Cell {
	var out [][]api.Cell
	for _, row := range rows {
		cells := make([]api.Cell, len(p.Names))
		for i, name := range p.Names {
			if at := slices.Index(n.Names, name); at < len(row) {
				cells[i] = row[at]
			}
		}
		out = append(out, cells)
	}
	return out
}

// wantSound: a program that Lower gave is in its one form, can be run, and its image is no longer than may be.
func wantSound(t *testing.T, p api.Program) {
	t.Helper()
	if e := image.Canon(p); e != api.OK {
		t.Fatalf("Canon: %d: %+v", e, p)
	}
	if _, segment, place, e := verify.Verify(p); e != api.OK {
		t.Fatalf("Verify: %d, %d, %d:\n%s", segment, place, e, shown(p))
	}
	b, e := image.Encode(p)
	if e != api.OK || len(b) > api.MaxImage {
		t.Fatalf("Encode: %d bytes, %d", len(b), e)
	}
	if q, _, e := image.Decode(b); e != api.OK || !image.Equal(p, q) {
		t.Fatalf("Decode: %d:\n%s", e, shown(p))
	}
}

// wantNoLonger: with share a program has no more instructions, but for the keeps; and it keeps only what it gets.
func wantNoLonger(t *testing.T, shared, whole api.Program) {
	t.Helper()
	if count(whole, api.OpKeep)+count(whole, api.OpGet)+whole.Slots > 0 {
		t.Fatalf("shared without share:\n%s", shown(whole))
	}
	for i, s := range shared.Days {
		used := map[int][2]int{}
		for _, x := range s.Code {
			n := used[x.A]
			switch x.Op {
			case api.OpKeep:
				used[x.A] = [2]int{n[0] + 1, n[1]}
			case api.OpGet:
				used[x.A] = [2]int{n[0], n[1] + 1}
			}
		}
		keeps := 0
		for slot, n := range used {
			if n[0] == 0 || n[1] == 0 {
				t.Fatalf("slot %d: %d keeps, %d gets:\n%s", slot, n[0], n[1], shown(shared))
			}
			keeps += n[0]
		}
		if len(s.Code)-keeps > len(whole.Days[i].Code) {
			t.Fatalf("%d instructions, %d of them keeps, and without share %d:\n%s", len(s.Code), keeps, len(whole.Days[i].Code), shown(shared))
		}
	}
}

// wantPlayed: what a form comes to over rows, with share and without.
func wantPlayed(t *testing.T, n api.Normal, rows [][]api.Cell, programs ...api.Program) api.Outcome {
	t.Helper()
	want, _ := dag.Play(n, rows)
	for _, p := range programs {
		out, e := machine.Run(p, bound(n, p, rows))
		if e != api.OK || !slices.Equal(out.Flows, want.Flows) || out.Fault != want.Fault || out.Day != want.Day {
			t.Fatalf("Run over %v: %+v, %d, want %+v:\n%s", rows, out, e, want, shown(p))
		}
	}
	return want
}

// tally counts what runs come to.
type tally struct {
	faults map[api.Fault]int
	flows  int
}

// wantMeaning holds P1703 for a form, over some rows.
func (c *tally) wantMeaning(t *testing.T, chance *rand.Rand, n api.Normal, runs int) {
	t.Helper()
	shared, whole := lowered(t, n, true), lowered(t, n, false)
	wantSound(t, shared)
	wantSound(t, whole)
	wantNoLonger(t, shared, whole)
	for range runs {
		rows := sample.Rows(chance.Intn, chance.Intn(n.Horizon+3), len(n.Names))
		out := wantPlayed(t, n, rows, shared, whole)
		c.faults[out.Fault]++
		c.flows += len(out.Flows)
	}
}

func (c *tally) wantAll(t *testing.T, count int) {
	t.Helper()
	for fault := range api.NoObs + 1 {
		if c.faults[fault] < count {
			t.Errorf("the fault %d has come %d times alone", fault, c.faults[fault])
		}
	}
	if c.flows < count {
		t.Errorf("%d flows alone", c.flows)
	}
}

// P1703: forms by chance.
func TestMeaningOfForms(t *testing.T) {
	t.Parallel()
	chance := rand.New(rand.NewSource(175))
	c := &tally{faults: map[api.Fault]int{}}
	for range 4000 {
		c.wantMeaning(t, chance, someForm(t, chance), 4)
	}
	c.wantAll(t, 500)
}

// P1703: the forms of deals by chance.
func TestMeaningOfDeals(t *testing.T) {
	t.Parallel()
	chance := rand.New(rand.NewSource(176))
	c := &tally{faults: map[api.Fault]int{}}
	for range 1500 {
		c.wantMeaning(t, chance, formOfDeal(t, chance), 3)
	}
	c.wantAll(t, 50)
}

// P1703: every outcome of the tests of an action, at every height.
func TestMeaningOfTests(t *testing.T) {
	t.Parallel()
	a, b := times(xA), times(xB)
	yes, no := test(true, op(api.XGt, xA, xNum(1))), test(false, op(api.XGt, xB, xNum(1)))
	steps := []api.Step{a, b, yes, no, give()}
	var lists func(list []api.Step, left int)
	lists = func(list []api.Step, left int) {
		for _, last := range [][]api.Step{nil, {never}} {
			all := append(slices.Clone(list), last...)
			n := form(t, true, pays(0, xNum(7), all...), pays(0, square, yes))
			programs := []api.Program{lowered(t, n, true), lowered(t, n, false)}
			for v := range 3 {
				for w := range 3 {
					wantPlayed(t, n, [][]api.Cell{{{Has: true, V: v}, {Has: w > 0, V: w}}}, programs...)
				}
			}
		}
		if left == 0 {
			return
		}
		for _, s := range steps {
			lists(append(slices.Clone(list), s), left-1)
		}
	}
	lists(nil, 4)
}
