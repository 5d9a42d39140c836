package verify_test

import (
	"strings"
	"testing"

	"payoff/api"
	"payoff/asm"
	"payoff/verify"
)

// The examples of the chapter.

// program reads the code of day 1, its lines behind each other with "; " between them (a line may begin a further day), with the lists that it names.
func program(t *testing.T, code string, stack, slots, cells string) api.Program {
	t.Helper()
	head := ""
	for _, list := range [][2]string{{"obs A", "names A\n"}, {"flow EUR", "curs EUR\n"}, {"const 5", "pool 5\n"}} {
		if strings.Contains(code, list[0]) {
			head += list[1]
		}
	}
	text := head + "horizon 3\ncells " + cells + "\nslots " + slots + "\nstack " + stack + "\nday 1\n" + strings.ReplaceAll(code, "; ", "\n") + "\n"
	p, line, e := asm.Parse(text)
	if e != api.OK {
		t.Fatalf("Parse(%q): line %d, %d", text, line, e)
	}
	return p
}

// taken holds what is answered to code that is right.
func taken(t *testing.T, code string, slots, cells string, proof api.Proof, heights ...int) {
	t.Helper()
	p := program(t, code, string(rune('0'+proof.Stack)), slots, cells)
	wantVerify(t, p, proof, 0, 0, api.OK)
	wantHeights(t, p, 0, heights, api.OK)
	hold(t, p)
}

// refused holds what is answered to code that is wrong, whatever height the program tells.
func refused(t *testing.T, code string, segment, place int, e api.Errno) {
	t.Helper()
	for _, stack := range []string{"0", "1", "2", "16384"} {
		p := program(t, code, stack, "1", "1")
		wantVerify(t, p, api.Proof{}, segment, place, e)
		wantHeights(t, p, 0, nil, e)
		wantHeights(t, p, -1, nil, e)
		hold(t, p)
	}
}

// P1401, P1402
func TestExample1(t *testing.T) {
	taken(t, "const 5; flow EUR; end", "0", "0", api.Proof{Stack: 1, Fuel: 3}, 0, 1, 0)
	p := program(t, "const 5; flow EUR; end", "2", "0", "0")
	wantVerify(t, p, api.Proof{}, 1, 0, api.ErrProof)
	wantHeights(t, p, 0, nil, api.ErrProof)
}

// P1401
func TestExample2(t *testing.T) {
	refused(t, "flow EUR; const 5; end", 0, 0, api.ErrStack)
	refused(t, "const 5; end", 0, 1, api.ErrStack)
	refused(t, "bool 1; flow EUR; end", 0, 1, api.ErrSort)
}

// P1401
func TestExample3(t *testing.T) {
	refused(t, "obs A 2; flow EUR; end", 0, 0, api.ErrBack)
	taken(t, "obs A 1; flow EUR; end", "0", "0", api.Proof{Stack: 1, Fuel: 3, Back: 1}, 0, 1, 0)
}

// P1401
func TestExample4(t *testing.T) {
	refused(t, "jump 1; const 5; end", 0, 1, api.ErrDead)
	refused(t, "jump 9; const 5; flow EUR; end", 0, 0, api.ErrJump)
	taken(t, "jump 0; const 5; flow EUR; end", "0", "0", api.Proof{Stack: 1, Fuel: 4}, 0, 0, 1, 0)
}

// P1401
func TestExample5(t *testing.T) {
	refused(t, "bool 1; zero 1; const 5; flow EUR; end", 0, 2, api.ErrStack)
	refused(t, "bool 1; zero 2; const 5; jump 1; bool 0; flow EUR; end", 0, 4, api.ErrSort)
}

// P1401
func TestExample6(t *testing.T) {
	refused(t, "get 0; drop; end", 0, 0, api.ErrSlot)
	refused(t, "bool 1; zero 3; const 5; keep 0; drop; get 0; drop; end", 0, 5, api.ErrSlot)
	taken(t, "bool 1; zero 3; const 5; keep 0; drop; end", "1", "0", api.Proof{Stack: 1, Fuel: 6}, 0, 1, 0, 1, 1, 0)
}

// P1401
func TestExample7(t *testing.T) {
	refused(t, "const 5; keep 0; drop; end; day 2; get 0; drop; end", 1, 0, api.ErrSlot)
	taken(t, "const 5; keep 0; drop; end; day 2; bool 1; keep 0; drop; get 0; zero 0; end", "1", "0", api.Proof{Stack: 1, Fuel: 10}, 0, 1, 1, 0)
}

// P1401, P1402: nothing at all, and what is no canonical program.
func TestNothing(t *testing.T) {
	for _, p := range []api.Program{{}, {Horizon: 3660}} {
		wantVerify(t, p, api.Proof{}, 0, 0, api.OK)
		for _, segment := range []int{-1, 0, 1} {
			wantHeights(t, p, segment, nil, api.ErrRange)
		}
	}
	for _, p := range []api.Program{{Stack: 1}, {Slots: 1}, {Cells: 1}} {
		wantVerify(t, p, api.Proof{}, 0, 0, api.ErrProof)
		wantHeights(t, p, 0, nil, api.ErrProof)
	}
	for _, p := range []api.Program{{Horizon: -1}, {Pool: []int{5}}, {Days: []api.Segment{{}}}, {Days: []api.Segment{{Code: []api.Instr{{Op: api.OpEnd}}}}}, {Stack: api.MaxStack + 1}} {
		wantVerify(t, p, api.Proof{}, 0, 0, api.ErrCanon)
		for _, segment := range []int{-1, 0, 1} {
			wantHeights(t, p, segment, nil, api.ErrCanon)
		}
	}
	// What is wrong in the code is told only if the form is right.
	p := program(t, "drop; end", "0", "0", "0")
	wantVerify(t, p, api.Proof{}, 0, 0, api.ErrStack)
	p.Pool = []int{5}
	wantVerify(t, p, api.Proof{}, 0, 0, api.ErrCanon)
	if _, e := verify.Heights(p, 0); e != api.ErrCanon {
		t.Errorf("Heights: %d", e)
	}
}
