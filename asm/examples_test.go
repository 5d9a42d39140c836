package asm_test

import (
	"strings"
	"testing"

	"payoff/api"
	"payoff/asm"
	"payoff/image"
)

// The examples of the chapter.

const exampleText = "names A\ncurs EUR\npool 5\nhorizon 1\ncells 0\nslots 0\nstack 2\nday 1\n  obs A 1\n  const 5\n  mul\n  flow EUR\n  end\n"

const emptyText = "horizon 0\ncells 0\nslots 0\nstack 0\n"

func example() api.Program {
	return api.Program{Names: []string{"A"}, Curs: []string{"EUR"}, Pool: []int{5}, Horizon: 1, Stack: 2,
		Days: []api.Segment{{Day: 1, Code: []api.Instr{{Op: api.OpObs, B: 1}, {Op: api.OpConst}, {Op: api.OpMul}, {Op: api.OpFlow}, {Op: api.OpEnd}}}}}
}

// shown cuts what a message shows, as texts may be long.
func shown(text string) string { return text[:min(len(text), 400)] }

func wantPrint(t *testing.T, p api.Program, want string, e api.Errno) {
	t.Helper()
	if got, err := asm.Print(p); got != want || err != e {
		t.Errorf("Print = %q (%d bytes), %d, want %q (%d bytes), %d", shown(got), len(got), err, shown(want), len(want), e)
	}
}

func wantParse(t *testing.T, text string, want api.Program) {
	t.Helper()
	if got, line, e := asm.Parse(text); !image.Equal(got, want) || line != 0 || e != api.OK {
		t.Errorf("Parse(%q) = %.300v, %d, %d, want %.300v", shown(text), got, line, e, want)
	}
}

// isZero tells whether a program has nothing.
func isZero(p api.Program) bool { return image.Equal(p, api.Program{}) }

func wantRefused(t *testing.T, text string, line int, e api.Errno) {
	t.Helper()
	if got, at, err := asm.Parse(text); !isZero(got) || at != line || err != e {
		t.Errorf("Parse(%q) (%d bytes) = %.300v, %d, %d, want nothing, %d, %d", shown(text), len(text), got, at, err, line, e)
	}
}

func wantInstr(t *testing.T, p api.Program, i api.Instr, want string, e api.Errno) {
	t.Helper()
	if got, err := asm.PrintInstr(p, i); got != want || err != e {
		t.Errorf("PrintInstr(%v) = %q, %d, want %q, %d", i, got, err, want, e)
	}
}

func TestExample1(t *testing.T) {
	wantPrint(t, example(), exampleText, api.OK)
	wantParse(t, exampleText, example())
}

func TestExample2(t *testing.T) {
	wantPrint(t, api.Program{}, emptyText, api.OK)
	wantParse(t, emptyText, api.Program{})
}

func TestExample3(t *testing.T) {
	lines := strings.SplitAfter(emptyText, "\n")
	for at := range lines[:4] {
		behind, between := strings.Clone(lines[at]), lines[at]
		lines[at] = strings.TrimSuffix(behind, "\n") + "; nothing\n"
		wantParse(t, strings.Join(lines, ""), api.Program{})
		lines[at] = "\n" + between + "\n\n"
		wantParse(t, strings.Join(lines, ""), api.Program{})
		lines[at] = between
	}
	wantRefused(t, strings.TrimSuffix(emptyText, "stack 0\n"), 4, api.ErrLine)
	wantRefused(t, emptyText+"day 0\n", 0, api.ErrCanon)
	wantRefused(t, emptyText+"day 0", 0, api.ErrCanon)
}

func TestExample4(t *testing.T) {
	wantRefused(t, "horizon 01\n", 1, api.ErrLine)
	wantRefused(t, "horizon 0\nslots 0\n", 2, api.ErrLine)
	wantRefused(t, "names\n", 1, api.ErrLine)
	wantRefused(t, "names a\n", 1, api.ErrLine)
	wantRefused(t, "pool -0\n", 1, api.ErrLine)
	wantRefused(t, "", 1, api.ErrLine)
}

func TestExample5(t *testing.T) {
	for _, c := range []struct {
		old, put string
		line     int
		e        api.Errno
	}{
		{"const 5", "const 6", 10, api.ErrLine},
		{"flow EUR", "flow USD", 12, api.ErrLine},
		{"obs A 1", "obs A", 9, api.ErrLine},
		{"obs A 1", "obs A 3661", 9, api.ErrLine},
		{"mul", "ratio up", 11, api.ErrLine},
		{"day 1", "day 2", 0, api.ErrCanon},
	} {
		wantRefused(t, strings.Replace(exampleText, c.old, c.put, 1), c.line, c.e)
	}
}

func TestExample6(t *testing.T) {
	p := example()
	wantInstr(t, p, api.Instr{Op: api.OpObs, B: 3}, "obs A 3", api.OK)
	wantInstr(t, p, api.Instr{Op: api.OpObs, A: 1}, "", api.ErrRange)
	wantInstr(t, p, api.Instr{Op: api.OpJump, A: 7}, "jump 7", api.OK)
	wantInstr(t, p, api.Instr{Op: api.OpRatio, A: 4}, "ratio half_even", api.OK)
	wantInstr(t, p, api.Instr{Op: 29}, "", api.ErrOp)
	wantInstr(t, p, api.Instr{Op: api.OpAdd, A: 1}, "", api.ErrOp)
}

func TestExample7(t *testing.T) {
	wantRefused(t, strings.Replace(exampleText, "pool 5", "pool 5 5", 1), 0, api.ErrCanon)
	wantRefused(t, strings.Replace(exampleText, "pool 5", "pool 5 5", 1)+"pool 5", 14, api.ErrLine)
}
