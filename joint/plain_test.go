package joint_test

import (
	"slices"
	"testing"

	"payoff/api"
	"payoff/asm"
	"payoff/image"
	"payoff/joint"
	"payoff/lex"
	"payoff/verify"
)

// The plain reading of the chapter, promise by promise, to hold the calls against: what is joined is made whole, however great it becomes, and then looked at.

func plainGood(p api.Program) bool {
	_, _, _, e := verify.Verify(p)
	return e == api.OK
}

// plainPut puts an item into a list at its place, if it is not there.
func plainPut[T string | int](list []T, item T) []T {
	at := 0
	for at < len(list) && list[at] < item {
		at++
	}
	if at < len(list) && list[at] == item {
		return list
	}
	return slices.Insert(list, at, item)
}

// plainInstr: an instruction of a program, as it stands in another one, some accumulators of which are other programs'.
func plainInstr(i api.Instr, p, in api.Program, cells int) api.Instr {
	switch i.Op {
	case api.OpConst:
		return api.Instr{Op: i.Op, A: slices.Index(in.Pool, p.Pool[i.A])}
	case api.OpObs:
		return api.Instr{Op: i.Op, A: slices.Index(in.Names, p.Names[i.A]), B: i.B}
	case api.OpFlow:
		return api.Instr{Op: i.Op, A: slices.Index(in.Curs, p.Curs[i.A])}
	case api.OpLoad, api.OpStore:
		return api.Instr{Op: i.Op, A: cells + i.A}
	}
	return i
}

// plainJoined: the program that Join would give, if it were not too great.
func plainJoined(ps []api.Program) api.Program {
	var j api.Program
	for _, p := range ps {
		for _, name := range p.Names {
			j.Names = plainPut(j.Names, name)
		}
		for _, cur := range p.Curs {
			j.Curs = plainPut(j.Curs, cur)
		}
		for _, number := range p.Pool {
			j.Pool = plainPut(j.Pool, number)
		}
		j.Horizon, j.Slots, j.Stack, j.Cells = max(j.Horizon, p.Horizon), max(j.Slots, p.Slots), max(j.Stack, p.Stack), j.Cells+p.Cells
	}
	for day := range j.Horizon + 1 {
		var code []api.Instr
		cells := 0
		for _, p := range ps {
			for _, s := range p.Days {
				for _, i := range s.Code {
					if s.Day == day && i.Op != api.OpEnd {
						code = append(code, plainInstr(i, p, j, cells))
					}
				}
			}
			cells += p.Cells
		}
		if len(code) > 0 {
			j.Days = append(j.Days, api.Segment{Day: day, Code: append(code, api.Instr{Op: api.OpEnd})})
		}
	}
	return j
}

// plainJoin: P1901.
func plainJoin(ps []api.Program) (api.Program, api.Errno) {
	if len(ps) < 1 || len(ps) > 64 {
		return api.Program{}, api.ErrArg
	}
	for _, p := range ps {
		if !plainGood(p) {
			return api.Program{}, api.ErrArg
		}
	}
	j := plainJoined(ps)
	if image.Canon(j) != api.OK {
		return api.Program{}, api.ErrFull
	}
	return j, api.OK
}

// plainLater: P1902.
func plainLater(p api.Program, days int) (api.Program, api.Errno) {
	if !plainGood(p) || days < 0 {
		return api.Program{}, api.ErrArg
	}
	if days > 3660 || p.Horizon+days > 3660 {
		return api.Program{}, api.ErrLimit
	}
	q := p
	q.Horizon += days
	q.Days = nil
	for _, s := range p.Days {
		q.Days = append(q.Days, api.Segment{Day: s.Day + days, Code: s.Code})
	}
	return q, api.OK
}

// plainRename: P1903.
func plainRename(p api.Program, pairs []string) (api.Program, api.Errno) {
	if !plainGood(p) || len(pairs)%2 == 1 {
		return api.Program{}, api.ErrArg
	}
	becomes := map[string]string{}
	for n := 0; n < len(pairs); n += 2 {
		if _, twice := becomes[pairs[n]]; twice || !slices.Contains(p.Names, pairs[n]) || !lex.Capital(pairs[n+1]) {
			return api.Program{}, api.ErrArg
		}
		becomes[pairs[n]] = pairs[n+1]
	}
	q := p
	q.Names, q.Days = nil, nil
	called := p
	called.Names = nil
	for _, name := range p.Names {
		if other, ok := becomes[name]; ok {
			name = other
		}
		called.Names = append(called.Names, name)
		q.Names = plainPut(q.Names, name)
	}
	for _, s := range p.Days {
		var code []api.Instr
		for _, i := range s.Code {
			code = append(code, plainInstr(i, called, q, 0))
		}
		q.Days = append(q.Days, api.Segment{Day: s.Day, Code: code})
	}
	return q, api.OK
}

// plainProof: P1904, of a join.
func plainProof(ps []api.Program) api.Proof {
	var all api.Proof
	having := map[int]int{}
	for _, p := range ps {
		proof, _, _, _ := verify.Verify(p)
		all.Stack, all.Back, all.Fuel = max(all.Stack, proof.Stack), max(all.Back, proof.Back), all.Fuel+proof.Fuel
		for _, s := range p.Days {
			having[s.Day]++
		}
	}
	for _, programs := range having {
		all.Fuel -= programs - 1
	}
	return all
}

// shown: programs as texts, if they have any, cut short.
func shown(ps ...api.Program) string {
	all := ""
	for _, p := range ps {
		text, _ := asm.Print(p)
		all += "\n" + text[:min(len(text), 800)]
	}
	return all
}

// wantProgram: what a call has answered, and what is asked of it.
func wantProgram(t *testing.T, call string, got api.Program, e api.Errno, want api.Program, err api.Errno) {
	t.Helper()
	if e != err || !image.Equal(got, want) {
		t.Fatalf("%s: %d, want %d:%s\nwant:%s", call, e, err, shown(got), shown(want))
	}
}

// wantProof: P1904: what was answered is good, and its proof.
func wantProof(t *testing.T, call string, p api.Program, want api.Proof) {
	t.Helper()
	if proof, segment, place, e := verify.Verify(p); e != api.OK || proof != want {
		t.Fatalf("%s: Verify = %v, %d, %d, %d, want %v:%s", call, proof, segment, place, e, want, shown(p))
	}
}

// holdJoin holds Join against the plain reading, with P1904, and tells what it answered.
func holdJoin(t *testing.T, ps ...api.Program) (api.Program, api.Errno) {
	t.Helper()
	want, err := plainJoin(ps)
	j, e := joint.Join(ps)
	wantProgram(t, "Join", j, e, want, err)
	if e == api.OK {
		wantProof(t, "Join", j, plainProof(ps))
	}
	return j, e
}

// holdLater holds Later against the plain reading, with P1904, and tells what it answered.
func holdLater(t *testing.T, p api.Program, days int) (api.Program, api.Errno) {
	t.Helper()
	want, err := plainLater(p, days)
	q, e := joint.Later(p, days)
	wantProgram(t, "Later", q, e, want, err)
	if e == api.OK {
		wantProof(t, "Later", q, plainProof([]api.Program{p}))
	}
	return q, e
}

// holdRename holds Rename against the plain reading, with P1904, and tells what it answered.
func holdRename(t *testing.T, p api.Program, pairs ...string) (api.Program, api.Errno) {
	t.Helper()
	want, err := plainRename(p, pairs)
	q, e := joint.Rename(p, pairs...)
	wantProgram(t, "Rename", q, e, want, err)
	if e == api.OK {
		wantProof(t, "Rename", q, plainProof([]api.Program{p}))
	}
	return q, e
}
