package lower_test

import (
	"slices"
	"strconv"
	"testing"

	"payoff/api"
	"payoff/dag"
	"payoff/verify"
)

// The greatest forms. What they come to is worked out by hand, as the plain reading goes through all code again and again.

// great: the form of actions, with names, accumulators and days as many as there may be.
func great(t *testing.T, actions ...api.Action) api.Normal {
	t.Helper()
	names := []string{"A", "B"}
	for i := 2; i < api.MaxNames; i++ {
		names = append(names, "N"+strconv.Itoa(i))
	}
	n, e := dag.Norm(names, actions, api.MaxCells, api.MaxHorizon, false)
	if e != api.OK {
		t.Fatalf("Norm: %d", e)
	}
	return n
}

// wantRight: a form's programs can be run, and mean what it means, each observation being 3 on day 0.
func wantRight(t *testing.T, n api.Normal) (shared, whole api.Program) {
	t.Helper()
	shared, whole = lowered(t, n, true), lowered(t, n, false)
	wantSound(t, shared)
	wantSound(t, whole)
	wantNoLonger(t, shared, whole)
	row := slices.Repeat([]api.Cell{{Has: true, V: 3}}, len(n.Names))
	if len(n.Actions) > 0 {
		wantPlayed(t, n, [][]api.Cell{row}, shared, whole)
	}
	return shared, whole
}

// wantSize: a program's measures, and how many instructions its first day has.
func wantSize(t *testing.T, what string, p api.Program, stack, slots, instructions int) {
	t.Helper()
	if p.Stack != stack || p.Slots != slots || len(p.Days[0].Code) != instructions {
		t.Errorf("%s: stack %d, slots %d, %d instructions, want %d, %d, %d", what, p.Stack, p.Slots, len(p.Days[0].Code), stack, slots, instructions)
	}
}

// P1701, P1703: expressions nested as deep as their weight lets them be.
func TestDeepExpressions(t *testing.T) {
	t.Parallel()
	deep := xA
	for range api.MaxNodes - 3 {
		deep = op(api.XNeg, deep)
	}
	shared, whole := wantRight(t, great(t, pays(0, deep)))
	wantSize(t, "negations", shared, 1, 0, api.MaxNodes)
	wantSize(t, "negations", whole, 1, 0, api.MaxNodes)

	const forks = 5460
	choice := xB
	for range forks {
		choice = op(api.XIf, op(api.XFalse), xA, choice)
	}
	shared, whole = wantRight(t, great(t, pays(0, choice)))
	wantSize(t, "choices", shared, 1, 0, 4*forks+3)
	wantSize(t, "choices", whole, 1, 0, 4*forks+3)

	truth := op(api.XTrue)
	for i := range 8000 {
		truth = op(pick2(i, api.XAnd, api.XOr), truth, op(pick2(i/3, api.XTrue, api.XFalse)))
	}
	shared, _ = wantRight(t, great(t, pays(0, xNum(1), test(true, truth))))
	wantSize(t, "truths", shared, 1, 0, 1+8000*4+1+3)
}

// pick2: one of two, in turn.
func pick2(i, a, b int) int {
	if i%2 == 0 {
		return a
	}
	return b
}

// P1701, P1703: stacks as high as they can be.
func TestHighStacks(t *testing.T) {
	t.Parallel()
	const levels = 5460
	ratio := xNum(1)
	for range levels {
		ratio = op(api.XRatio, xNum(0), xA, ratio)
	}
	shared, _ := wantRight(t, great(t, pays(0, ratio)))
	wantSize(t, "ratios", shared, 2*levels+1, 0, 3*levels+3)

	factors := slices.Repeat([]api.Step{times(xNum(1))}, 8190)
	shared, _ = wantRight(t, great(t, pays(0, xA, factors...)))
	wantSize(t, "factors", shared, 8191, 0, 2*8190+3)
}

// P1701, P1703: as many failing places as there may be, each at another height.
func TestManyTests(t *testing.T) {
	t.Parallel()
	const pairs = 4094
	for _, last := range []int{api.XTrue, api.XFalse} {
		var steps []api.Step
		for i := range pairs {
			truth := op(api.XTrue)
			if i == pairs/2 {
				truth = op(last)
			}
			steps = append(steps, times(xNum(1)), test(true, truth))
		}
		shared, whole := wantRight(t, great(t, pays(0, xA, steps...), pays(0, xB)))
		code := 3*pairs + 1 + pairs + 1 + 1 + pairs + 3
		wantSize(t, "tests", shared, pairs+1, 0, code)
		wantSize(t, "tests", whole, pairs+1, 0, code)
		for i := range pairs {
			// Behind the tests come the amount, the products, the flow, the jump; of the drops the first ones are for those who have more factors.
			want := 3*(pairs-1-i) + 1 + pairs + 2 + (pairs - 1 - i)
			if zero := shared.Days[0].Code[3*i+2]; zero != (api.Instr{Op: api.OpZero, A: want}) {
				t.Fatalf("test %d: %v, want %d", i, zero, want)
			}
		}
	}
}

// P1701, P1702, P1704: towers: without share twice as much on each level.
func TestTowers(t *testing.T) {
	t.Parallel()
	for _, levels := range []int{1, 2, 3, 12} {
		n := tower(levels)
		shared, whole := wantRight(t, n)
		wantSize(t, "a tower", whole, levels+1, 0, 1<<(levels+1)-1+2)
		// The lowest one has two observations; each of the others a get; each but the topmost a keep.
		wantSize(t, "a tower, shared", shared, 2, levels-1, 3+3*(levels-1)+2)
		var want []int
		for i := 1; i < levels; i++ {
			want = append(want, i)
		}
		if kept := keptOn(t, n, 0); !slices.Equal(kept, want) {
			t.Errorf("Shared: %v, want %v", kept, want)
		}
		wantOnce(t, n)
	}
}

// P1701, P1702, P1703: as many slots as can be, and then many ways with all of them kept.
func TestManySlots(t *testing.T) {
	t.Parallel()
	const terms, tests = 1000, 900
	product := func(i int) api.X { return op(api.XMul, xA, xNum(i)) }
	sum, difference := product(0), product(0)
	for i := 1; i < terms; i++ {
		sum, difference = op(api.XAdd, sum, product(i)), op(api.XSub, difference, product(i))
	}
	var actions []api.Action
	actions = append(actions, pays(0, sum), pays(0, difference))
	for i := range tests {
		actions = append(actions, pays(0, product(i), test(i%3 > 0, positive)))
	}
	n := great(t, actions...)
	shared, _ := wantRight(t, n)
	kept := keptOn(t, n, 0)
	if shared.Slots != terms+1 || len(kept) != terms+1 || count(shared, api.OpGet) != terms+2*tests-1 || count(shared, api.OpKeep) != terms+1 {
		t.Errorf("%d slots, %d kept, %d gets, %d keeps", shared.Slots, len(kept), count(shared, api.OpGet), count(shared, api.OpKeep))
	}
	for slot, node := range kept[:terms] {
		x := n.Nodes[node]
		if x.Op != api.XMul || n.Nodes[x.B].Num != slot {
			t.Fatalf("slot %d: %+v", slot, x)
		}
	}
	wantOnce(t, n)
}

// P1701, P1703: as many days, currencies, constants, names and accumulators as there may be.
func TestGreatLists(t *testing.T) {
	t.Parallel()
	var actions []api.Action
	for i := range api.MaxActions {
		a := pays(i*api.MaxHorizon/(api.MaxActions-1), xNum(-i))
		a.Cur = string([]byte{byte('A' + i%26), byte('A' + i/26%26), byte('A' + i/676)})
		if i%4 == 0 {
			a = sets(a.Day, 511-i/4, xObs(63-i%64, a.Day/2))
		}
		actions = append(actions, a)
	}
	n := great(t, actions...)
	shared, whole := wantRight(t, n)
	if len(shared.Days) != api.MaxActions || len(whole.Days) != api.MaxActions || len(shared.Names) != 16 || len(shared.Curs) != 1536 || len(shared.Pool) != 1536 || shared.Cells != 512 || shared.Horizon != 3660 {
		t.Errorf("%d days, %d names, %d currencies, %d constants, %d cells, horizon %d", len(shared.Days), len(shared.Names), len(shared.Curs), len(shared.Pool), shared.Cells, shared.Horizon)
	}
	proof, _, _, _ := verify.Verify(shared)
	if last := shared.Days[api.MaxActions-1]; last.Day != api.MaxHorizon || proof.Back != actions[api.MaxActions-4].Day-actions[api.MaxActions-4].Day/2 || proof.Fuel != 3*api.MaxActions {
		t.Errorf("%+v, %+v", last, proof)
	}

	sum := xNum(1)
	for i := range 8190 {
		sum = op(api.XAdd, xNum(-i), sum)
	}
	shared, _ = wantRight(t, great(t, pays(0, sum)))
	if len(shared.Pool) != 8191 || shared.Pool[0] != -8189 || shared.Pool[8190] != 1 || shared.Stack != 8191 {
		t.Errorf("%d constants, stack %d", len(shared.Pool), shared.Stack)
	}
}

// P1701: all names, and the farthest day that can be looked back to.
func TestFarthestLook(t *testing.T) {
	var actions []api.Action
	for i := range api.MaxNames {
		actions = append(actions, pays(api.MaxHorizon, op(api.XMul, xObs(i, 0), xObs(i, api.MaxHorizon))))
	}
	n := great(t, actions...)
	slices.Reverse(n.Names)
	p := lowered(t, n, true)
	wantSound(t, p)
	if len(p.Names) != api.MaxNames || !slices.IsSorted(p.Names) || len(p.Days) != 1 || p.Days[0].Day != api.MaxHorizon {
		t.Fatalf("%+v", p)
	}
	for i := range api.MaxNames {
		name := slices.Index(p.Names, n.Names[i])
		want := []api.Instr{{Op: api.OpObs, A: name, B: api.MaxHorizon}, {Op: api.OpObs, A: name}, {Op: api.OpMul}, {Op: api.OpFlow}}
		if got := p.Days[0].Code[4*i : 4*i+4]; !slices.Equal(got, want) {
			t.Errorf("%v, want %v", got, want)
		}
	}
}
