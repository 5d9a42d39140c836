package fan_test

import (
	"math"
	"math/rand"
	"slices"
	"testing"

	"payoff/api"
	"payoff/sample"
)

func pick[T any](chance *rand.Rand, list ...T) T {
	return list[chance.Intn(len(list))]
}

// mild: a good program by chance, most of whose runs come to their end, and some do not.
func mild(chance *rand.Rand) api.Program {
	p := api.Program{Names: []string{"A", "B"}, Curs: []string{"CHF", "EUR", "USD"}, Pool: []int{6}, Horizon: 2, Stack: 2}
	code := []api.Instr{}
	for cur := range 3 {
		code = append(code, instr(api.OpObs, chance.Intn(2), chance.Intn(2)), instr(api.OpConst, 0), instr(pick(chance, api.OpAdd, api.OpMin, api.OpMax)), instr(api.OpFlow, cur))
	}
	code = append(code, instr(api.OpConst, 0), instr(api.OpObs, 0, 1), instr(api.OpDiv), instr(api.OpFlow, 1), instr(api.OpObs, 1, 0), instr(api.OpFlow, 0))
	p.Days = []api.Segment{day(1, code...), day(2, code[:12]...)}
	return p
}

func someProgram(chance *rand.Rand) api.Program {
	if chance.Intn(2) == 0 {
		return mild(chance)
	}
	return sample.Sound(chance.Intn)
}

// someTable: a valid table by chance: its names are some of the program's and others, its rows as many as are wanted, or more or fewer.
func someTable(chance *rand.Rand, p api.Program) api.Table {
	days := p.Horizon + 1
	if chance.Intn(8) == 0 {
		days = chance.Intn(p.Horizon + 4)
	}
	if chance.Intn(3) == 0 {
		return sample.Table(chance.Intn, p.Names, days)
	}
	t := api.Table{Names: append(slices.Clone(p.Names), "ZZ")}
	chance.Shuffle(len(t.Names), func(i, k int) { t.Names[i], t.Names[k] = t.Names[k], t.Names[i] })
	for range days {
		var row []api.Cell
		for range t.Names {
			v := pick(chance, 1+chance.Intn(9), -1-chance.Intn(9))
			if chance.Intn(300) == 0 {
				v = pick(chance, math.MinInt, math.MaxInt, 0, 1<<62, -1<<62)
			}
			row = append(row, api.Cell{Has: true, V: v})
		}
		t.Rows = append(t.Rows, row)
	}
	return t
}

func someTables(chance *rand.Rand, p api.Program, count int) []api.Table {
	var list []api.Table
	for range count {
		list = append(list, someTable(chance, p))
	}
	return list
}

// spoiltTable: a table with something changed so that it is not valid.
func spoiltTable(chance *rand.Rand, x api.Table) api.Table {
	x.Names, x.Rows = slices.Clone(x.Names), slices.Clone(x.Rows)
	switch chance.Intn(5) {
	case 0:
		x.Rows = append(x.Rows, make([]api.Cell, len(x.Names)+1))
	case 1:
		x.Rows = make([][]api.Cell, 4097)
		x.Names = nil
	case 2:
		x.Names, x.Rows = append(x.Names, pick(chance, "a", "", "A B", "9")), nil
	case 3:
		x.Names, x.Rows = []string{"A", "B", "A"}, nil
	case 4:
		x.Names, x.Rows = []string{"A"}, [][]api.Cell{{{V: 5}}}
	}
	return x
}

// spoiltProgram: a program that verify refuses, by different errors.
func spoiltProgram(chance *rand.Rand, p api.Program) api.Program {
	p.Days = slices.Clone(p.Days)
	switch chance.Intn(4) {
	case 0:
		p.Stack++
	case 1:
		p.Names = []string{"B", "A"}
	case 2:
		p.Horizon += 1 << 20
	case 3:
		p.Horizon++
		p.Days = append(p.Days, day(p.Horizon, instr(api.OpDrop)))
	}
	return p
}

// tally counts what came: errors, or faults.
type tally[T comparable] map[T]int

func (n tally[T]) want(t *testing.T, count int, wanted ...T) {
	t.Helper()
	for _, x := range wanted {
		if n[x] < count {
			t.Errorf("%v came %d times", x, n[x])
		}
	}
}

// P2001, P2002, P2003, P10: programs and scenarios by chance, by any number of workers.
func TestByChance(t *testing.T) {
	t.Parallel()
	chance := rand.New(rand.NewSource(2001))
	faults, sums := tally[api.Fault]{}, tally[api.Fault]{}
	later := 0
	for range 4000 {
		p := someProgram(chance)
		got := hold(t, p, someTables(chance, p, chance.Intn(12)), 1+chance.Intn(16))
		if got.errors[0] != api.OK {
			t.Fatalf("refused: %d", got.errors[0])
		}
		if got.first >= 0 {
			faults[got.fault]++
		} else {
			sums[got.fault]++
		}
		if got.first > 0 {
			later++
		}
	}
	faults.want(t, 50, api.Overflow, api.DivZero, api.NoObs)
	sums.want(t, 50, api.NoFault, api.Overflow)
	if later < 300 {
		t.Errorf("another than the first scenario was the first that faults: %d times", later)
	}
}

// P2004: what is refused, by chance: several reasons at once, at any of the scenarios.
func TestRefusedByChance(t *testing.T) {
	t.Parallel()
	chance := rand.New(rand.NewSource(2002))
	told := tally[api.Errno]{}
	for range 6000 {
		p := someProgram(chance)
		scenarios := someTables(chance, p, chance.Intn(8))
		for n := range scenarios {
			if chance.Intn(6) == 0 {
				scenarios[n] = spoiltTable(chance, scenarios[n])
			}
		}
		if chance.Intn(4) == 0 {
			p = spoiltProgram(chance, p)
		}
		if chance.Intn(16) == 0 {
			scenarios = append(scenarios, make([]api.Table, 1025-pick(chance, 0, len(scenarios), len(scenarios)+1))...)
		}
		workers := 1 + chance.Intn(16)
		if chance.Intn(16) == 0 {
			workers = pick(chance, 0, -1, 17, math.MinInt, math.MaxInt)
		}
		told[hold(t, p, scenarios, workers).errors[0]]++
	}
	told.want(t, 30, api.OK, api.ErrArg, api.ErrLong, api.ErrSize, api.ErrName, api.ErrCell, api.ErrCanon, api.ErrStack, api.ErrProof)
}

// P2001, P2002, P2003: as many scenarios as there may be.
func TestManyByChance(t *testing.T) {
	t.Parallel()
	chance := rand.New(rand.NewSource(2003))
	for range 12 {
		p := someProgram(chance)
		scenarios := someTables(chance, p, 1024)
		hold(t, p, scenarios, 1+chance.Intn(16))
		// Of those that do not fault: the totals.
		var well []api.Table
		for _, scenario := range scenarios {
			if plainRun(p, scenario).Fault == api.NoFault {
				well = append(well, scenario)
			}
		}
		if got := hold(t, p, well, 1+chance.Intn(16)); got.first != -1 {
			t.Errorf("First = %d", got.first)
		}
	}
}
