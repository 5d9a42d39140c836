package build_test

import (
	"bytes"
	"math"
	"math/rand"
	"slices"
	"strings"
	"testing"

	"payoff/api"
	"payoff/asm"
	"payoff/build"
	"payoff/image"
	"payoff/octet"
	"payoff/sample"
	"payoff/table"
)

// imageOf: the image of a program that is in its one form.
func imageOf(t *testing.T, p api.Program) []byte {
	t.Helper()
	b, e := image.Encode(p)
	if e != api.OK {
		t.Fatalf("%+v: %d", p, e)
	}
	return b
}

// assembled: the image of a program's text; its lines stand behind one another, with "; " between them.
func assembled(t *testing.T, text string) []byte {
	t.Helper()
	p, line, e := asm.Parse(strings.ReplaceAll(text, "; ", "\n"))
	if e != api.OK {
		t.Fatalf("%q: %d, %d", text, line, e)
	}
	return imageOf(t, p)
}

// badTables: for each error a table that has it.
func badTables() map[api.Errno]api.Table {
	return map[api.Errno]api.Table{
		api.ErrSize: {Names: []string{"S"}, Rows: [][]api.Cell{{}}},
		api.ErrLong: {Rows: make([][]api.Cell, api.MaxRows+1)},
		api.ErrName: {Names: []string{"S", "S"}},
		api.ErrCell: {Names: []string{"S"}, Rows: [][]api.Cell{{{Has: false, V: 1}}}},
	}
}

// badPrograms: for each of verify's errors a program that has it.
func badPrograms() map[api.Errno]string {
	return map[api.Errno]string{
		api.ErrJump:  "horizon 0; cells 0; slots 0; stack 0; day 0; jump 9; end",
		api.ErrStack: "curs EUR; horizon 0; cells 0; slots 0; stack 0; day 0; flow EUR; end",
		api.ErrSort:  "curs EUR; horizon 0; cells 0; slots 0; stack 1; day 0; bool 1; flow EUR; end",
		api.ErrSlot:  "curs EUR; horizon 0; cells 0; slots 1; stack 1; day 0; get 0; flow EUR; end",
		api.ErrBack:  "names S; curs EUR; horizon 1; cells 0; slots 0; stack 1; day 0; obs S 1; flow EUR; end",
		api.ErrDead:  "horizon 0; cells 0; slots 0; stack 1; day 0; jump 2; bool 1; drop; end",
		api.ErrProof: "horizon 0; cells 0; slots 0; stack 2; day 0; bool 1; drop; end",
	}
}

// wantBytesError: bytes that are refused, whatever the table is.
func wantBytesError(t *testing.T, b []byte, want api.Errno) {
	t.Helper()
	wantRunError(t, b, api.Table{}, want)
	for _, bad := range badTables() {
		wantRunError(t, b, bad, want)
	}
	if pairs, e := build.Needs(b); e != want || len(pairs) > 0 {
		t.Errorf("Needs of %.80x: %v, %d, want %d", b, pairs, e, want)
	}
}

// P1803, P1805: first the bytes, then the program, then the table.
func TestOrderOfErrors(t *testing.T) {
	for want, text := range badPrograms() {
		b := assembled(t, text)
		wantBytesError(t, b, want)
		wantBytesError(t, b[:len(b)-1], api.ErrSum)
	}
	good := compiled(t, textA, true, true)
	for want, bad := range badTables() {
		wantRunError(t, good, bad, want)
	}
	wantBytesError(t, good[:7], api.ErrShort)
	wantBytesError(t, append(bytes.Clone(good), 0), api.ErrSum)
	wantBytesError(t, append([]byte("X"), good...), api.ErrMagic)
	wantBytesError(t, make([]byte, api.MaxImage+1), api.ErrLong)
	wantBytesError(t, append(bytes.Clone(good), make([]byte, api.MaxImage)...), api.ErrLong)
	wantBytesError(t, make([]byte, api.MaxImage), api.ErrMagic)
}

// P1803, P1805: bytes that are sealed right, and are no image.
func TestSealedBytes(t *testing.T) {
	good := compiled(t, textA, true, true)
	sections, _, _ := octet.Unseal("PAYOFF1\n", good)
	sealed := func(sections ...api.Section) []byte {
		b, e := octet.Seal("PAYOFF1\n", sections)
		if e != api.OK {
			t.Fatal(e)
		}
		return b
	}
	with := func(at int, body ...byte) []byte {
		list := slices.Clone(sections)
		list[at].Body = body
		return sealed(list...)
	}
	if !bytes.Equal(sealed(sections...), good) {
		t.Fatal("the sections are not the image's")
	}
	wantBytesError(t, sealed(), api.ErrSection)
	wantBytesError(t, sealed(sections[:4]...), api.ErrSection)
	wantBytesError(t, with(0), api.ErrShort)
	wantBytesError(t, with(0, 65), api.ErrVarint)
	wantBytesError(t, with(0, 1, 1, 'S', 0), api.ErrExtra)
	wantBytesError(t, with(0, 1, 1, 's'), api.ErrCanon)
	wantBytesError(t, with(1, 1, 3, 'e', 'u', 'r'), api.ErrCanon)
	wantBytesError(t, with(4, 1, 1, 2, 2, 99, 0), api.ErrOp)
}

// P1803: a program that has nothing to do, over tables of all kinds.
func TestEmptyProgram(t *testing.T) {
	b := imageOf(t, api.Program{})
	for _, in := range []api.Table{{}, {Names: []string{"S"}}, {Rows: make([][]api.Cell, api.MaxRows)}} {
		if out, e := build.Run(b, in); e != api.OK || !isNothing(out) {
			t.Errorf("%+v, %d", out, e)
		}
	}
	wantNeeds(t, b)
	wantOutcome(t, deal("observe S; contract zero;"), api.Table{}, api.NoFault, 0)
	wantOutcome(t, deal("observe S; contract zero;"), api.Table{Names: []string{"T"}, Rows: [][]api.Cell{{{}}}}, api.NoFault, 0)
}

// P1803, P1804: a name's observations are found wherever its column stands; those of other names, and of days behind the horizon, are not looked at.
func TestColumns(t *testing.T) {
	text := deal("observe Z, A, M; contract delay (1) { pay (EUR, Z) and pay (USD, A[-1]) and pay (JPY, M) };")
	flows := []api.Flow{{Day: 1, Cur: "EUR", Amount: 26}, {Day: 1, Cur: "USD", Amount: 1}, {Day: 1, Cur: "JPY", Amount: -13}}
	for _, in := range []string{
		"day A M Z\n0 1 5 6\n1 7 -13 26\n",
		"day Z M A\n0 6 5 1\n1 26 -13 7\n",
		"day Z M A\n0 - - 1\n1 26 -13 -\n",
		"day A0 M ZZ A Z MM\n0 9 - 9 1 - 9\n1 8 -13 8 - 26 8\n2 7 7 7 7 7 7\n3 - - - - - -\n",
	} {
		wantOutcome(t, text, tab(t, in), api.NoFault, 0, flows...)
	}
	for _, c := range []struct {
		in    string
		flows int
	}{
		{"day A M\n0 1 5\n1 7 -13\n", 0},
		{"day A M Z\n0 1 -13 26\n", 0},
		{"day A M Z\n1 1 -13 26\n", 1},
		{"day Z M\n1 26 -13\n", 1},
		{"day A Z\n0 1 1\n1 1 26\n", 2},
		{"day A Z M\n0 1 1 -13\n1 1 26 -\n", 2},
		{"day A Z MM\n0 1 1 -13\n1 1 26 -13\n", 2},
	} {
		wantOutcome(t, text, tab(t, c.in), api.NoObs, 1, flows[:c.flows]...)
	}
}

// P1803: programs that no text has been compiled to, too: values dropped, accumulators that are read ahead of being set, days without code.
func TestProgramsByHand(t *testing.T) {
	b := assembled(t, "names A S; curs EUR USD; pool -2 9; horizon 4; cells 2; slots 1; stack 2; "+
		"day 1; load 1; flow USD; obs A 1; keep 0; store 0; get 0; drop; end; "+
		"day 4; load 0; const 9; mul; flow EUR; obs S 2; const -2; lt; zero 2; load 0; flow USD; end")
	wantNeeds(t, b, api.Pair{Name: "A", V: 0}, api.Pair{Name: "S", V: 2})
	for _, c := range []struct {
		in    string
		fault api.Fault
		day   int
		flows []api.Flow
	}{
		{"day S A\n0 - 5\n2 -3 -\n", api.NoFault, 0, []api.Flow{{Day: 1, Cur: "USD"}, {Day: 4, Cur: "EUR", Amount: 45}, {Day: 4, Cur: "USD", Amount: 5}}},
		{"day S A\n0 - 5\n2 -2 -\n", api.NoFault, 0, []api.Flow{{Day: 1, Cur: "USD"}, {Day: 4, Cur: "EUR", Amount: 45}}},
		{"day A\n0 5\n", api.NoObs, 4, []api.Flow{{Day: 1, Cur: "USD"}, {Day: 4, Cur: "EUR", Amount: 45}}},
		{"day S\n2 5\n", api.NoObs, 1, []api.Flow{{Day: 1, Cur: "USD"}}},
		{"day A\n0 9223372036854775807\n", api.Overflow, 4, []api.Flow{{Day: 1, Cur: "USD"}}},
	} {
		want := api.Outcome{Flows: c.flows, Fault: c.fault, Day: c.day}
		if out, e := build.Run(b, tab(t, c.in)); e != api.OK || !sameOutcome(out, want) {
			t.Errorf("%q: %+v, %d, want %+v", c.in, out, e, want)
		}
	}
}

// P1804: the report is Compile's, and the table's error comes behind it.
func TestMeanErrors(t *testing.T) {
	for want, bad := range badTables() {
		if out, r := build.Mean(textA, bad); !sameReport(r, api.Report{Err: want}) || !isNothing(out) {
			t.Errorf("%+v, %+v, want %d", out, r, want)
		}
		for _, text := range []string{"", padded(textA, api.MaxSource+1), deal("contract pay (EUR, true);"), deal("contract delay (5000) pay (EUR, 1);")} {
			_, want := build.Compile(text, true, true)
			if out, r := build.Mean(text, bad); want.Err == api.OK || !sameReport(r, want) || !isNothing(out) {
				t.Errorf("%.80q: %+v, %+v, want %+v", text, out, r, want)
			}
		}
	}
}

// P1804, P1807, P2: what deals of each kind come to.
func TestMeanings(t *testing.T) {
	in := tab(t, "day S T\n0 3 0\n1 -4 10\n2 8 7\n3 - 1\n4 9223372036854775807 2\n")
	eur := func(day, amount int) api.Flow { return api.Flow{Day: day, Cur: "EUR", Amount: amount} }
	for _, c := range []struct {
		contract string
		fault    api.Fault
		day      int
		flows    []api.Flow
	}{
		{"zero", 0, 0, nil},
		{"pay (EUR, 0)", 0, 0, []api.Flow{eur(0, 0)}},
		{"give scale (S) delay (2) pay (EUR, T - 2)", 0, 0, []api.Flow{eur(2, -15)}},
		{"at (2026-01-07) pay (EUR, S * day)", 0, 0, []api.Flow{eur(2, 16)}},
		{"for t in 0 .. 4 step 2 pay (EUR, T + t)", 0, 0, []api.Flow{eur(0, 0), eur(2, 9), eur(4, 6)}},
		{"for t in 0 .. 4 pay (EUR, 10 / S)", api.NoObs, 3, []api.Flow{eur(0, 3), eur(1, -2), eur(2, 1)}},
		{"for t in 0 .. 4 pay (EUR, S / T)", api.DivZero, 0, nil},
		{"delay (4) { pay (EUR, S) and pay (EUR, S + T) and pay (EUR, 1) }", api.Overflow, 4, []api.Flow{eur(4, math.MaxInt)}},
		{"if (S > 0 || 1 / T > 0) pay (EUR, 1) else pay (EUR, 2)", 0, 0, []api.Flow{eur(0, 1)}},
		{"if (S < 0 && 1 / T > 0) pay (EUR, 1) else pay (EUR, 2)", 0, 0, []api.Flow{eur(0, 2)}},
		{"let x = S in delay (1) pay (EUR, x * S)", 0, 0, []api.Flow{eur(1, -12)}},
		{"accumulate s = 1 for t in 0 .. 2 by s * T + t then give pay (EUR, s)", 0, 0, []api.Flow{eur(2, -9)}},
		{"when (T > 7) within 4 pay (EUR, T) else pay (EUR, 0 - 1)", 0, 0, []api.Flow{eur(1, 10)}},
		{"when (T > 70) within 4 pay (EUR, T) else pay (EUR, 0 - 1)", 0, 0, []api.Flow{eur(4, -1)}},
		{"when (S > 70) within 4 pay (EUR, T) else pay (EUR, 0 - 1)", api.NoObs, 3, nil},
		{"scale (1 / T) if (false) pay (EUR, 1) else zero", api.DivZero, 0, nil},
		{"delay (1) pay (EUR, ratio (T, S, 3, floor))", 0, 0, []api.Flow{eur(1, -14)}},
	} {
		wantOutcome(t, deal("observe S, T; contract "+c.contract+";"), in, c.fault, c.day, c.flows...)
	}
}

// P1805: each observation once, by day and then by name, whatever the order of the code, and also what a run need not reach.
func TestNeeds(t *testing.T) {
	b := assembled(t, "names A AB B; curs EUR; horizon 9; cells 0; slots 0; stack 2; "+
		"day 3; obs B 0; obs A 3; add; flow EUR; obs AB 3; obs A 3; add; flow EUR; end; "+
		"day 5; bool 0; zero 4; obs B 2; obs AB 2; mul; flow EUR; obs A 2; obs B 5; sub; flow EUR; end")
	wantNeeds(t, b, api.Pair{Name: "A"}, api.Pair{Name: "AB"}, api.Pair{Name: "B"},
		api.Pair{Name: "A", V: 3}, api.Pair{Name: "AB", V: 3}, api.Pair{Name: "B", V: 3})

	text := deal("observe Z, S; contract if (true) pay (EUR, S) else pay (EUR, Z);")
	eachSetting(func(fold, share bool) {
		want := []api.Pair{{Name: "S"}, {Name: "Z"}}
		if fold {
			want = want[:1]
		}
		wantNeeds(t, compiled(t, text, fold, share), want...)
	})
}

// P1805: a program with as much code as there may be, that reads as much as it can.
func TestNeedsMuch(t *testing.T) {
	t.Parallel()
	p := api.Program{Curs: []string{"EUR"}, Horizon: api.MaxHorizon, Stack: 1}
	for i := range api.MaxNames {
		p.Names = append(p.Names, "N"+string(rune('A'+i/26))+string(rune('A'+i%26)))
	}
	s := api.Segment{Day: api.MaxHorizon}
	for i := range api.MaxCode/2 - 1 {
		s.Code = append(s.Code, api.Instr{Op: api.OpObs, A: api.MaxNames - 1 - i%api.MaxNames, B: i / api.MaxNames}, api.Instr{Op: api.OpFlow})
	}
	s.Code = append(s.Code, api.Instr{Op: api.OpEnd})
	p.Days = []api.Segment{s}
	b := imageOf(t, p)
	pairs, e := build.Needs(b)
	want, _ := plainNeeds(b)
	if e != api.OK || len(pairs) != api.MaxCode/2-1 || !slices.Equal(pairs, want) {
		t.Errorf("%d pairs, %d, want %d", len(pairs), e, len(want))
	}
}

// wantAsPlain holds Run and Needs of bytes against the plain reading.
func wantAsPlain(t *testing.T, b []byte, in api.Table) api.Errno {
	t.Helper()
	out, e := build.Run(b, in)
	if want, wanted := plainRun(b, in); e != wanted || !sameOutcome(out, want) {
		t.Fatalf("Run of %.300x over %.300v: %v, %d, want %v, %d", b, in, out, e, want, wanted)
	}
	pairs, refused := build.Needs(b)
	if want, wanted := plainNeeds(b); refused != wanted || !slices.Equal(pairs, want) {
		t.Fatalf("Needs of %.300x: %v, %d, want %v, %d", b, pairs, refused, want, wanted)
	}
	return e
}

// P1803, P1805, P3: programs by chance, such that can be run and others, over tables by chance.
func TestProgramsByChance(t *testing.T) {
	t.Parallel()
	chance := rand.New(rand.NewSource(181))
	told, faults := map[api.Errno]int{}, map[api.Fault]int{}
	for turn := range 6000 {
		p := sample.Sound(chance.Intn)
		if turn%4 == 0 {
			p = sample.Program(chance.Intn)
		}
		in := sample.Table(chance.Intn, p.Names, chance.Intn(14))
		b := imageOf(t, p)
		told[wantAsPlain(t, b, in)]++
		out, _ := build.Run(b, in)
		faults[out.Fault]++
	}
	if told[api.OK] < 4000 || told[api.ErrStack] < 500 || told[api.ErrProof] < 50 {
		t.Errorf("%v", told)
	}
	for fault := range api.NoObs + 1 {
		if faults[fault] < 100 {
			t.Errorf("the fault %d: %d", fault, faults[fault])
		}
	}
}

// spoilBytes changes bytes, and seals them anew.
func spoilBytes(chance *rand.Rand, b []byte) []byte {
	b = bytes.Clone(b[:len(b)-4])
	for range 1 + chance.Intn(2) {
		at := 8 + chance.Intn(len(b)-8)
		switch chance.Intn(3) {
		case 0:
			b[at] = byte(chance.Intn(256))
		case 1:
			b[at] += byte(chance.Intn(5) - 2)
		default:
			b[at] ^= 1 << chance.Intn(8)
		}
	}
	sum := octet.Crc(b)
	return append(b, byte(sum), byte(sum>>8), byte(sum>>16), byte(sum>>24))
}

// P1801, P1803, P1805, P3: images with something changed, whose checksum is right all the same.
func TestSpoiltImages(t *testing.T) {
	t.Parallel()
	chance := rand.New(rand.NewSource(182))
	told := map[api.Errno]int{}
	for range 15000 {
		p := sample.Sound(chance.Intn)
		b := spoilBytes(chance, imageOf(t, p))
		told[wantAsPlain(t, b, sample.Table(chance.Intn, p.Names, chance.Intn(14)))]++
	}
	for _, e := range []api.Errno{api.OK, api.ErrVarint, api.ErrSection, api.ErrExtra, api.ErrOp, api.ErrCanon, api.ErrStack, api.ErrSort, api.ErrProof} {
		if told[e] < 50 {
			t.Errorf("the error %d: %d", e, told[e])
		}
	}
}

// P1801: bytes of any kind, and tables of any kind.
func TestWildBytes(t *testing.T) {
	t.Parallel()
	chance := rand.New(rand.NewSource(183))
	good := compiled(t, textA, true, true)
	for range 5000 {
		b := make([]byte, chance.Intn(60))
		chance.Read(b)
		if chance.Intn(2) == 0 {
			b = append([]byte("PAYOFF1\n"), b...)
		}
		if chance.Intn(3) == 0 {
			b = bytes.Clone(good)
		}
		in := api.Table{}
		for range chance.Intn(3) {
			in.Names = append(in.Names, []string{"S", "T", "s", "", "\xff"}[chance.Intn(5)])
		}
		for range chance.Intn(3) {
			row := make([]api.Cell, max(0, len(in.Names)+(chance.Intn(7)-3)/3))
			for i := range row {
				row[i] = api.Cell{Has: chance.Intn(4) > 0, V: chance.Intn(2)}
			}
			in.Rows = append(in.Rows, row)
		}
		wantAsPlain(t, b, in)
		wantMeanAsPlain(t, textA, in)
	}
}

func wantMeanAsPlain(t *testing.T, text string, in api.Table) api.Report {
	t.Helper()
	out, r := build.Mean(text, in)
	if want, report := plainMean(text, in); !sameReport(r, report) || !sameOutcome(out, want) {
		t.Fatalf("Mean of %.300q over %v: %v, %v, want %v, %v", text, in, out, r, want, report)
	}
	if r.Err == api.OK && table.Valid(in) != api.OK {
		t.Fatalf("a table that is none is taken: %v", in)
	}
	return r
}
