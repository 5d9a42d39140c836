package machine_test

import (
	"slices"
	"testing"

	"payoff/api"
	"payoff/machine"
)

// The greatest programs. What they come to is worked out by hand.

// repeated: so many of an instruction.
func repeated(count, op, a int) []api.Instr {
	return slices.Repeat([]api.Instr{{Op: op, A: a}}, count)
}

// ended: the code of a day 0, end being put behind it.
func ended(parts ...[]api.Instr) []api.Segment {
	return []api.Segment{{Code: append(slices.Concat(parts...), api.Instr{Op: api.OpEnd})}}
}

// P1503, P1506: a stack as high as it may be.
func TestHighestStack(t *testing.T) {
	t.Parallel()
	p := api.Program{Curs: []string{"EUR"}, Pool: []int{3}, Stack: api.MaxStack}
	p.Days = ended(repeated(api.MaxStack, api.OpConst, 0), repeated(api.MaxStack-1, api.OpAdd, 0), repeated(1, api.OpFlow, 0))
	wantRun(t, p, nil, api.Outcome{Flows: eur(0, 3*api.MaxStack)}, api.OK)
	m := started(t, p)
	m.Day(nil)
	wantState(t, m, api.State{Today: 1, Steps: 2*api.MaxStack + 1}, true)
}

// P1503: every slot, every constant and every cell is one of its own.
func TestEverySlotConstantAndCell(t *testing.T) {
	t.Parallel()
	const cells = 1 << 15
	p := api.Program{Curs: []string{"EUR"}, Cells: cells, Slots: api.MaxSlots, Stack: 1}
	var code []api.Instr
	for n := range api.MaxPool {
		p.Pool = append(p.Pool, 7*n-50000)
		code = append(code, api.Instr{Op: api.OpConst, A: n}, api.Instr{Op: api.OpKeep, A: api.MaxSlots - 1 - n}, api.Instr{Op: api.OpStore, A: cells - 1 - 2*n})
	}
	var want []api.Flow
	for n := range api.MaxSlots {
		code = append(code, api.Instr{Op: api.OpGet, A: n}, api.Instr{Op: api.OpFlow}, api.Instr{Op: api.OpLoad, A: 2*n + 1}, api.Instr{Op: api.OpFlow})
		want = append(want, eur(0, 7*(api.MaxSlots-1-n)-50000, 7*(api.MaxSlots-1-n)-50000)...)
	}
	p.Days = ended(code)
	wantRun(t, p, nil, api.Outcome{Flows: want}, api.OK)
}

// P1503: every currency and every name.
func TestEveryCurrencyAndName(t *testing.T) {
	t.Parallel()
	p := api.Program{Stack: 1}
	var code []api.Instr
	var row []api.Cell
	var want []api.Flow
	for n := range api.MaxNames {
		p.Names = append(p.Names, string([]byte{'A' + byte(n/26), 'A' + byte(n%26)}))
		row = append(row, api.Cell{Has: true, V: 1000 + n*n})
	}
	for n := range api.MaxCurs {
		p.Curs = append(p.Curs, string([]byte{'A' + byte(n/676), 'A' + byte(n/26%26), 'A' + byte(n%26)}))
		name := n * 37 % api.MaxNames
		code = append(code, api.Instr{Op: api.OpObs, A: name}, api.Instr{Op: api.OpFlow, A: n})
		want = append(want, api.Flow{Cur: p.Curs[n], Amount: row[name].V})
	}
	p.Days = ended(code)
	wantRun(t, p, [][]api.Cell{row}, api.Outcome{Flows: want}, api.OK)
	row[63].Has = false // first looked at by the currency n with 37 n = 63 (mod 64)
	first := slices.IndexFunc(code, func(i api.Instr) bool { return i.Op == api.OpObs && i.A == 63 }) / 2
	wantRun(t, p, [][]api.Cell{row}, api.Outcome{Flows: want[:first], Fault: api.NoObs}, api.OK)
}

// P1503, P1506: as many instructions as there may be: all are done, or all but three are passed over.
func TestLongestCode(t *testing.T) {
	t.Parallel()
	const between = api.MaxCode - 3
	p := api.Program{Stack: 1, Days: ended(repeated(1, api.OpBool, 0), repeated(1, api.OpZero, between), repeated(between, api.OpJump, 0))}
	for truth, steps := range []int{3, api.MaxCode} {
		p.Days[0].Code[0].A = truth
		m := started(t, p)
		wantDay(t, m, nil, nil, api.NoFault, api.OK)
		wantState(t, m, api.State{Today: 1, Steps: steps}, true)
		wantResume(t, p, api.State{Today: 1, Steps: api.MaxCode}, api.OK)
		wantResume(t, p, api.State{Today: 1, Steps: api.MaxCode + 1}, api.ErrState)
	}
}

// allDays: a program with code on every day, that looks back to day 0 with its last name; and rows for it.
func allDays() (api.Program, [][]api.Cell) {
	p := api.Program{Curs: []string{"EUR"}, Horizon: api.MaxHorizon, Stack: 1}
	row := make([]api.Cell, api.MaxNames)
	for n := range api.MaxNames {
		p.Names = append(p.Names, string([]byte{'A' + byte(n/26), 'A' + byte(n%26)}))
	}
	var rows [][]api.Cell
	for day := range api.MaxHorizon + 1 {
		code := []api.Instr{{Op: api.OpObs, A: api.MaxNames - 1, B: day}, {Op: api.OpFlow}, {Op: api.OpObs, A: day % (api.MaxNames - 1), B: day / 2}, {Op: api.OpFlow}, {Op: api.OpEnd}}
		p.Days = append(p.Days, api.Segment{Day: day, Code: code})
		rows = append(rows, slices.Clone(row))
		for n := range row {
			rows[day][n] = api.Cell{Has: true, V: day*1000 + n}
		}
	}
	return p, rows
}

// P1503, P1505, P1507: the longest run, which looks as far back as can be; also resumed.
func TestLongestRun(t *testing.T) {
	t.Parallel()
	p, rows := allDays()
	var want []api.Flow
	for day := range rows {
		want = append(want, eur(day, api.MaxNames-1, (day-day/2)*1000+day%(api.MaxNames-1))...)
	}
	wantRun(t, p, rows, api.Outcome{Flows: want}, api.OK)
	m := started(t, p)
	for day, row := range rows {
		if day%1000 == 999 {
			m = wantResume(t, p, m.State(), api.OK)
		}
		wantDay(t, m, row, want[2*day:2*day+2], api.NoFault, api.OK)
	}
	s := m.State()
	if s.Today != api.MaxHorizon+1 || s.Steps != 5*len(rows) || !slices.EqualFunc(s.Past, rows[1:], slices.Equal) || !m.Over() {
		t.Errorf("Today %d, Steps %d, %d rows", s.Today, s.Steps, len(s.Past))
	}
	s.Past = rows
	if _, e := machine.Resume(p, s); e != api.ErrState {
		t.Errorf("Resume with a row too many: %d", e)
	}
}

// P1503: rows far too long.
func TestLongRows(t *testing.T) {
	row := make([]api.Cell, 1<<20)
	row[0] = api.Cell{Has: true, V: 4}
	m := started(t, example(t))
	wantDay(t, m, row, nil, api.NoFault, api.OK)
	wantState(t, m, api.State{Today: 1, Steps: 3, Cells: []int{4}, Past: [][]api.Cell{seen(4)}}, false)
}
