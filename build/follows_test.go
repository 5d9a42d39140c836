package build_test

import (
	"bytes"
	"math/rand"
	"slices"
	"testing"

	"payoff/api"
	"payoff/build"
	"payoff/image"
	"payoff/sample"
	"payoff/table"
	"payoff/verify"
)

// wantWithin holds P1806 for a text that has an image, and tells its images with all settings.
func wantWithin(t *testing.T, text string) [][]byte {
	t.Helper()
	var images [][]byte
	_, first := build.Compile(text, false, false)
	eachSetting(func(fold, share bool) {
		b, r := build.Compile(text, fold, share)
		p, place, e := image.Decode(b)
		if r.Err != api.OK || !sameReport(r, first) || e != api.OK {
			t.Fatalf("%.300q, %v, %v: %v, %v; Decode: %d, %d", text, fold, share, r, first, place, e)
		}
		if _, segment, place, e := verify.Verify(p); e != api.OK {
			t.Fatalf("%.300q, %v, %v: Verify: %d, %d, %d", text, fold, share, segment, place, e)
		}
		instructions := 0
		for _, s := range p.Days {
			instructions += len(s.Code)
		}
		if len(b) > r.Size.Bytes || p.Horizon != r.Size.Horizon || p.Cells > r.Size.Cells || instructions > 4*r.Size.Nodes {
			t.Fatalf("%.300q, %v, %v: %d bytes, horizon %d, %d cells, %d instructions: %v", text, fold, share, len(b), p.Horizon, p.Cells, instructions, r)
		}
		images = append(images, b)
	})
	return images
}

// wantSameByAllRoads holds P1807 for a text and its images.
func wantSameByAllRoads(t *testing.T, text string, images [][]byte, in api.Table) api.Outcome {
	t.Helper()
	want, r := build.Mean(text, in)
	if r.Err != api.OK {
		t.Fatalf("%.300q: %v", text, r)
	}
	for _, b := range images {
		if out, e := build.Run(b, in); e != api.OK || !sameOutcome(out, want) {
			t.Fatalf("%.300q over %.300v, as %.300x: %.300v, %d, want %.300v", text, in, b, out, e, want)
		}
	}
	return want
}

// tally counts what runs come to.
type tally struct {
	faults map[api.Fault]int
	flows  int
}

func newTally() *tally { return &tally{faults: map[api.Fault]int{}} }

func (c *tally) add(out api.Outcome) {
	c.faults[out.Fault]++
	c.flows += len(out.Flows)
}

func (c *tally) wantAll(t *testing.T, count int) {
	t.Helper()
	for fault := range api.NoObs + 1 {
		if c.faults[fault] < count {
			t.Errorf("the fault %d has come %d times alone", fault, c.faults[fault])
		}
	}
	if c.flows < count {
		t.Errorf("%d flows alone", c.flows)
	}
}

// P1806, P1807, P2, P7: deals by chance, over tables by chance.
func TestMeaningsByChance(t *testing.T) {
	t.Parallel()
	chance := rand.New(rand.NewSource(187))
	c, unlike := newTally(), 0
	for range 1000 {
		text := someText(t, chance)
		images := wantWithin(t, text)
		if !bytes.Equal(images[0], images[3]) {
			unlike++
		}
		for range 5 {
			c.add(wantSameByAllRoads(t, text, images, sample.Table(chance.Intn, []string{"A", "B", "C"}, chance.Intn(30))))
		}
	}
	c.wantAll(t, 20)
	if unlike < 300 {
		t.Errorf("%d deals alone whose programs are not the same with all settings", unlike)
	}
}

// agreeing: a table that says the same as another one up to a day, and behind it what it likes.
func agreeing(chance *rand.Rand, t api.Table, last int) api.Table {
	other := sample.Table(chance.Intn, t.Names, chance.Intn(30))
	for _, name := range t.Names {
		if !slices.Contains(other.Names, name) && len(other.Names) < api.MaxNames {
			other.Names = append(other.Names, name)
			for day := range other.Rows {
				other.Rows[day] = append(other.Rows[day], api.Cell{})
			}
		}
	}
	for len(other.Rows) <= min(last, len(t.Rows)-1) {
		other.Rows = append(other.Rows, make([]api.Cell, len(other.Names)))
	}
	for day := range min(last+1, len(other.Rows)) {
		for column, name := range other.Names {
			other.Rows[day][column] = api.Cell{}
			if at := slices.Index(t.Names, name); at >= 0 && day < len(t.Rows) {
				other.Rows[day][column] = t.Rows[day][at]
			}
		}
	}
	return other
}

// upTo: what of an outcome is told up to a day.
func upTo(out api.Outcome, last int) api.Outcome {
	var early api.Outcome
	for _, f := range out.Flows {
		if f.Day <= last {
			early.Flows = append(early.Flows, f)
		}
	}
	if out.Fault != api.NoFault && out.Day <= last {
		early.Fault, early.Day = out.Fault, out.Day
	}
	return early
}

// wantNoLookAhead holds P1808 for an image; whether what came behind the day was another.
func wantNoLookAhead(t *testing.T, chance *rand.Rand, b []byte, in api.Table, last int) bool {
	t.Helper()
	other := agreeing(chance, in, last)
	if table.Valid(other) != api.OK || !table.Agree(in, other, last) {
		t.Fatalf("%v and %v do not agree up to %d", in, other, last)
	}
	one, e := build.Run(b, in)
	two, f := build.Run(b, other)
	if e != api.OK || f != api.OK || !sameOutcome(upTo(one, last), upTo(two, last)) {
		t.Fatalf("%x: %v, %d over %v; %v, %d over %v, up to %d", b, one, e, in, two, f, other, last)
	}
	p, _, _ := image.Decode(b)
	for _, out := range []api.Outcome{one, two} {
		if !sameOutcome(upTo(out, p.Horizon), out) {
			t.Fatalf("%v: behind the horizon %d", out, p.Horizon)
		}
	}
	return !sameOutcome(one, two)
}

// P1808, P6: images of texts, and others, over two tables.
func TestNoLookAhead(t *testing.T) {
	t.Parallel()
	chance := rand.New(rand.NewSource(188))
	unlike := 0
	for turn := range 4000 {
		p := sample.Sound(chance.Intn)
		b, names := imageOf(t, p), p.Names
		if turn%2 == 0 {
			b, names = compiled(t, someText(t, chance), chance.Intn(2) == 0, chance.Intn(2) == 0), []string{"A", "B", "C"}
		}
		if wantNoLookAhead(t, chance, b, sample.Table(chance.Intn, names, chance.Intn(20)), chance.Intn(8)-1) {
			unlike++
		}
	}
	if unlike < 300 {
		t.Errorf("%d pairs of tables alone that come to something else", unlike)
	}
}

// tableOf: a table with just these observations.
func tableOf(chance *rand.Rand, pairs []api.Pair) api.Table {
	var t api.Table
	for _, pair := range pairs {
		if !slices.Contains(t.Names, pair.Name) {
			t.Names = append(t.Names, pair.Name)
		}
	}
	for _, pair := range pairs {
		for len(t.Rows) <= pair.V {
			t.Rows = append(t.Rows, make([]api.Cell, len(t.Names)))
		}
		t.Rows[pair.V][slices.Index(t.Names, pair.Name)] = api.Cell{Has: true, V: chance.Intn(19) - 9}
	}
	return t
}

// P1809: with all that Needs tells no run ends with NoObs; without one of them some do, and some do not.
func TestEnough(t *testing.T) {
	t.Parallel()
	chance := rand.New(rand.NewSource(189))
	full, lacking := newTally(), newTally()
	for turn := range 4000 {
		b := imageOf(t, sample.Sound(chance.Intn))
		if turn%2 == 0 {
			b = compiled(t, someText(t, chance), chance.Intn(2) == 0, chance.Intn(2) == 0)
		}
		pairs, e := build.Needs(b)
		if e != api.OK {
			t.Fatalf("Needs: %d", e)
		}
		in := tableOf(chance, pairs)
		out, e := build.Run(b, in)
		if e != api.OK || out.Fault == api.NoObs {
			t.Fatalf("%x over %v: %v, %d", b, in, out, e)
		}
		full.add(out)
		if len(pairs) > 0 {
			lost := pick(chance, pairs...)
			in.Rows[lost.V][slices.Index(in.Names, lost.Name)] = api.Cell{}
			out, _ := build.Run(b, in)
			lacking.add(out)
		}
	}
	if full.faults[api.NoFault] < 1000 || lacking.faults[api.NoObs] < 500 || lacking.faults[api.NoFault] < 300 {
		t.Errorf("%v, without one %v", full.faults, lacking.faults)
	}
}

// P1809: every observation that a run looks at is one that Needs tells: without all others it comes to the same.
func TestNoMoreIsRead(t *testing.T) {
	t.Parallel()
	chance := rand.New(rand.NewSource(190))
	for range 2000 {
		p := sample.Sound(chance.Intn)
		b := imageOf(t, p)
		in := sample.Table(chance.Intn, p.Names, chance.Intn(14))
		pairs, _ := build.Needs(b)
		want, _ := build.Run(b, in)
		for day := range in.Rows {
			for column, name := range in.Names {
				if !slices.Contains(pairs, api.Pair{Name: name, V: day}) {
					in.Rows[day][column] = api.Cell{}
				}
			}
		}
		if out, e := build.Run(b, in); e != api.OK || !sameOutcome(out, want) {
			t.Fatalf("%x over %v: %v, %d, want %v", b, in, out, e, want)
		}
	}
}
