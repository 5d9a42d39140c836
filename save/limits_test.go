package save_test

import (
	"math"
	"slices"
	"strings"
	"testing"

	"payoff/api"
	"payoff/save"
	"payoff/verify"
)

// greatest: a program whose states are the longest that there are.
func greatest(t *testing.T) api.Program {
	t.Helper()
	p := api.Program{Horizon: api.MaxHorizon, Cells: 1 << 15, Stack: 1}
	var code []api.Instr
	for n := range api.MaxNames {
		p.Names = append(p.Names, string([]byte{'A' + byte(n/26), 'A' + byte(n%26)}))
		code = append(code, api.Instr{Op: api.OpObs, A: n, B: api.MaxHorizon}, api.Instr{Op: api.OpStore, A: 1<<15 - 1 - n})
	}
	p.Days = []api.Segment{{Day: api.MaxHorizon, Code: append(code, api.Instr{Op: api.OpEnd})}}
	if proof, _, _, e := verify.Verify(p); e != api.OK || proof.Back != api.MaxHorizon {
		t.Fatalf("Verify: %+v, %d", proof, e)
	}
	return p
}

// greatestState: a state of it, at day today, each number of which has as many bytes as it may.
func greatestState(today int) api.State {
	s := api.State{Today: today, Cells: slices.Repeat([]int{math.MinInt}, 1<<15)}
	for range min(today, api.MaxHorizon) {
		s.Past = append(s.Past, slices.Repeat(seen(math.MinInt), api.MaxNames))
	}
	return s
}

// wantSame: a state was read whole. (What is so long is not shown.)
func wantSame(t *testing.T, p api.Program, b []byte, s api.State) {
	t.Helper()
	got, place, e := save.Decode(p, b)
	if e != api.OK || place != 0 || !sameState(got, s) {
		t.Fatalf("Decode: %d, %d; Today %d, %d cells, %d rows", place, e, got.Today, len(got.Cells), len(got.Past))
	}
	m, e := save.Thaw(p, b)
	if e != api.OK || !sameState(m.State(), s) {
		t.Fatalf("Thaw: %d", e)
	}
	if again, e := save.Freeze(p, m); e != api.OK || !slices.Equal(again, b) {
		t.Fatalf("Freeze: %d bytes, %d", len(again), e)
	}
}

// P1602, P1603: the longest bytes that a state has are within the limit: there is none that is too long.
func TestGreatestState(t *testing.T) {
	t.Parallel()
	p := greatest(t)
	for _, today := range []int{1, api.MaxHorizon, api.MaxHorizon + 1} {
		s := greatestState(today)
		if today > api.MaxHorizon {
			s.Steps, s.Fault, s.Day = 129, api.NoObs, api.MaxHorizon
		}
		b, e := save.Encode(p, s)
		if e != api.OK {
			t.Fatalf("Encode: %d", e)
		}
		rows := min(today, api.MaxHorizon)
		numbers := len(plainBodies(p, api.State{Today: today, Steps: s.Steps, Fault: s.Fault, Day: s.Day})[1])
		past := rows * 64 * 11
		want := 8 + 1 + 6 + 2 + numbers + 1 + 3 + 327680 + 1 + len(plainUint(uint64(past))) + past + 4
		if len(b) != want || len(b) > api.MaxRecord {
			t.Errorf("%d bytes, want %d", len(b), want)
		}
		wantSame(t, p, b, s)
	}
}

// P1603: places behind sections whose lengths have several bytes.
func TestPlacesBehindLongSections(t *testing.T) {
	t.Parallel()
	p := greatest(t)
	numbers := "\x02\x00\x00\x00"
	cells := strings.Repeat("\x00", 1<<15)
	past := strings.Repeat("\x00", 2*64)
	wantSame(t, p, plainSeal(plainMark(p), numbers, cells, past), api.State{Today: 2, Cells: make([]int, 1<<15), Past: [][]api.Cell{make([]api.Cell, 64), make([]api.Cell, 64)}})
	// Ahead of section 3's body: 21, its id, and a length of three bytes.
	for _, wrong := range []string{cells[1:], cells + "\x00", cells[1:] + "\x80"} {
		wantRefused(t, p, plainSeal(plainMark(p), numbers, wrong, past), 25, api.ErrSection)
	}
	// Ahead of section 4's: 25, section 3's body, its id, and a length of one byte or two.
	for wrong, width := range map[string]int{past[1:]: 1, past + "\x00": 2, past[1:] + "\x02": 2, past[2:] + "\x01": 1} {
		wantRefused(t, p, plainSeal(plainMark(p), numbers, cells, wrong), 25+1<<15+1+width, api.ErrSection)
	}
	wantRefused(t, p, plainSeal(plainMark(p), "\x02\x01\x00\x00", cells, past), 17, api.ErrState)
}

// P1603: as many bytes as a record may have are looked at, one more is not.
func TestLongestBytes(t *testing.T) {
	t.Parallel()
	p := rich(t)
	bodies := plainBodies(p, richState())
	for section, want := range map[int]struct {
		place int
		e     api.Errno
	}{1: {14, api.ErrOther}, 2: {20, api.ErrSection}, 3: {26, api.ErrSection}, 4: {36, api.ErrSection}} {
		long := slices.Clone(bodies)
		long[section-1] = strings.Repeat("\x00", api.MaxRecord/2)
		rest := api.MaxRecord - len(plainSeal(long...))
		for more, at := range map[int]struct {
			place int
			e     api.Errno
		}{rest - 1: want, rest: want, rest + 1: {0, api.ErrLong}, rest + 1000: {0, api.ErrLong}} {
			long[section-1] = strings.Repeat("\x00", api.MaxRecord/2+more)
			b := plainSeal(long...)
			if len(b) != api.MaxRecord-rest+more {
				t.Fatalf("%d bytes", len(b))
			}
			wantRefused(t, p, b, at.place, at.e)
			holdDecode(t, p, b)
		}
	}
	wantRefused(t, p, make([]byte, api.MaxRecord), 0, api.ErrMagic)
	wantRefused(t, p, make([]byte, api.MaxRecord+1), 0, api.ErrLong)
}
