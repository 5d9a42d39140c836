package joint_test

import (
	"cmp"
	"math"
	"math/rand"
	"slices"
	"testing"

	"payoff/api"
	"payoff/sample"
)

func pick[T any](chance *rand.Rand, list ...T) T {
	return list[chance.Intn(len(list))]
}

// some: so many of a list that rises, in their order.
func some[T cmp.Ordered](chance *rand.Rand, count int, list ...T) []T {
	left := slices.Clone(list)
	for len(left) > count {
		at := chance.Intn(len(left))
		left = slices.Delete(left, at, at+1)
	}
	return left
}

var someNames = []string{"A", "A1", "AB", "B", "B_1", "C", "S", "S9", "T", "Z9"}

// someProgram: a good program by chance; its names, currencies and constants are some of more than it has, so that programs have some in common and some not.
func someProgram(chance *rand.Rand) api.Program {
	p := sample.Sound(chance.Intn)
	p.Names = some(chance, len(p.Names), someNames...)
	p.Curs = some(chance, len(p.Curs), "AUD", "CHF", "EUR", "JPY", "USD")
	if chance.Intn(2) == 0 {
		p.Pool = some(chance, len(p.Pool), math.MinInt, math.MinInt+1, -9, -7, -1, 0, 1, 2, 3, 5, 1<<33, math.MaxInt-1, math.MaxInt)
	}
	for later := pick(chance, 0, 0, chance.Intn(9)); later > 0; later-- {
		p.Horizon++
		for n := range p.Days {
			p.Days[n].Day++
		}
	}
	return p
}

// somePrograms: a few of them.
func somePrograms(chance *rand.Rand) []api.Program {
	var ps []api.Program
	for range 1 + chance.Intn(5) {
		ps = append(ps, someProgram(chance))
	}
	if chance.Intn(10) == 0 {
		ps = slices.Insert(ps, chance.Intn(len(ps)+1), api.Program{Horizon: chance.Intn(30)})
	}
	return ps
}

// spoilt: a copy of a program with something changed, most of the time so that it is not good any more.
func spoilt(chance *rand.Rand, p api.Program) api.Program {
	p = copied(p)
	if len(p.Days) == 0 || chance.Intn(3) == 0 {
		number := pick(chance, &p.Stack, &p.Slots, &p.Cells, &p.Horizon)
		*number += pick(chance, 1, -1, 1<<40, -1<<40)
		return p
	}
	s := &p.Days[chance.Intn(len(p.Days))]
	at := chance.Intn(len(s.Code))
	switch chance.Intn(5) {
	case 0:
		s.Code = slices.Delete(s.Code, at, at+1)
	case 1:
		s.Code[at] = instr(pick(chance, -1, 29, chance.Intn(29)), chance.Intn(3)-1)
	case 2:
		s.Code[at].A = pick(chance, -1, math.MinInt, math.MaxInt, 1<<18)
	case 3:
		s.Day = pick(chance, -1, p.Horizon+1, math.MinInt, math.MaxInt)
	case 4:
		p.Names = append(p.Names, pick(chance, "A", "a", "ZZ"))
	}
	return p
}

// copied: a program with lists of its own.
func copied(p api.Program) api.Program {
	p.Names, p.Curs, p.Pool, p.Days = slices.Clone(p.Names), slices.Clone(p.Curs), slices.Clone(p.Pool), slices.Clone(p.Days)
	for n := range p.Days {
		p.Days[n].Code = slices.Clone(p.Days[n].Code)
	}
	return p
}

// somePairs: pairs for some names, most of the time right ones.
func somePairs(chance *rand.Rand, names []string) []string {
	var pairs []string
	for _, at := range chance.Perm(len(names)) {
		if chance.Intn(3) > 0 {
			pairs = append(pairs, names[at], pick(chance, someNames...))
		}
	}
	switch chance.Intn(12) {
	case 0:
		pairs = append(pairs, pick(chance, someNames...))
	case 1:
		pairs = append(pairs, pick(chance, someNames...), "X")
	case 2:
		if len(pairs) > 0 {
			pairs[chance.Intn(len(pairs))] = pick(chance, "", "a", "Aa", "9", "A B")
		}
	}
	return pairs
}

// tally counts what came: errors, or faults.
type tally[T comparable] map[T]int

func (n tally[T]) want(t *testing.T, count int, wanted ...T) {
	t.Helper()
	for _, x := range wanted {
		if n[x] < count {
			t.Errorf("%v came %d times", x, n[x])
		}
	}
}

// P1901, P1904, P1907: programs by chance.
func TestJoinsByChance(t *testing.T) {
	t.Parallel()
	chance := rand.New(rand.NewSource(1901))
	told := tally[api.Errno]{}
	for range 3000 {
		ps := somePrograms(chance)
		if chance.Intn(4) == 0 {
			at := chance.Intn(len(ps))
			ps[at] = spoilt(chance, ps[at])
		}
		_, e := holdJoin(t, ps...)
		told[e]++
		if e == api.OK {
			wantJoin(t, ps[0], api.OK, ps[0])
		}
	}
	told.want(t, 300, api.OK, api.ErrArg)
}

// P1901, P1904: as many programs as may be joined, by chance, and more.
func TestJoinsOfMany(t *testing.T) {
	t.Parallel()
	chance := rand.New(rand.NewSource(1902))
	for _, count := range []int{63, 64, 65, 66, 200} {
		for range 8 {
			var ps []api.Program
			for range count {
				ps = append(ps, someProgram(chance))
			}
			if _, e := holdJoin(t, ps...); (e == api.ErrArg) != (count > 64) {
				t.Errorf("Join of %d: %d", count, e)
			}
		}
	}
}

// P1902, P1904: programs and days by chance.
func TestLaterByChance(t *testing.T) {
	t.Parallel()
	chance := rand.New(rand.NewSource(1903))
	told := tally[api.Errno]{}
	for range 3000 {
		p := someProgram(chance)
		if chance.Intn(4) == 0 {
			p = spoilt(chance, p)
		}
		_, e := holdLater(t, p, pick(chance, 0, 1, chance.Intn(4000), api.MaxHorizon-p.Horizon, api.MaxHorizon-p.Horizon+1, -1, math.MinInt, math.MaxInt))
		told[e]++
	}
	told.want(t, 300, api.OK, api.ErrArg, api.ErrLimit)
}

// P1903, P1904: programs and pairs by chance.
func TestRenamesByChance(t *testing.T) {
	t.Parallel()
	chance := rand.New(rand.NewSource(1904))
	told := tally[api.Errno]{}
	fewer := 0
	for range 5000 {
		p := someProgram(chance)
		pairs := somePairs(chance, p.Names)
		if chance.Intn(8) == 0 {
			p = spoilt(chance, p)
		}
		q, e := holdRename(t, p, pairs...)
		told[e]++
		if e == api.OK && len(q.Names) < len(p.Names) {
			fewer++
		}
	}
	told.want(t, 300, api.OK, api.ErrArg)
	if fewer < 150 {
		t.Errorf("names became one %d times", fewer)
	}
}
