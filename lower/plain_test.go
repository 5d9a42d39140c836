package lower_test

import (
	"slices"
	"strings"
	"testing"

	"payoff/api"
	"payoff/asm"
	"payoff/code"
	"payoff/dag"
	"payoff/image"
	"payoff/lower"
)

// A plain reading of the chapter, against which the calls are held. It goes through all code that is there so far whenever it asks what is surely kept.

// plainInstr: an instruction; a jump or zero leads to a place that is -1 as long as it is not known; keep and get have a node.
type plainInstr struct {
	op, a, b int
	to       *int
	node     int
}

// plainDay: a day's code that is being written.
type plainDay struct {
	n     api.Normal
	p     api.Program // with the lists
	cells []int
	day   int
	keeps func(node int) bool
	code  []plainInstr
}

func (d *plainDay) put(op, a, b int) {
	d.code = append(d.code, plainInstr{op: op, a: a, b: b})
}

// jump: a jump or zero to a place that is told later.
func (d *plainDay) jump(op int) *int {
	to := -1
	d.code = append(d.code, plainInstr{op: op, to: &to})
	return &to
}

// surelyKept: whether there is no way to the code's end that passes no keep of the node.
func (d *plainDay) surelyKept(node int) bool {
	come := make([]bool, len(d.code)+1)
	come[0] = true
	for at, i := range d.code {
		if !come[at] || i.op == api.OpKeep && i.node == node {
			continue
		}
		if i.op != api.OpJump {
			come[at+1] = true
		}
		if i.to != nil && *i.to >= 0 {
			come[*i.to] = true
		}
	}
	return !come[len(d.code)]
}

// plainReadsCell: whether a node, or one below it, is an accumulator.
func plainReadsCell(n api.Normal, node int) bool {
	x := n.Nodes[node]
	for _, kid := range []int{x.A, x.B, x.C} {
		if kid >= 0 && plainReadsCell(n, kid) {
			return true
		}
	}
	return x.Op == api.XCell
}

func plainShareable(n api.Normal, node int) bool {
	return n.Nodes[node].A >= 0 && !plainReadsCell(n, node)
}

func (d *plainDay) value(node int) {
	if plainShareable(d.n, node) && d.surelyKept(node) {
		d.code = append(d.code, plainInstr{op: api.OpGet, node: node})
		return
	}
	d.own(d.n.Nodes[node])
	if d.keeps(node) {
		d.code = append(d.code, plainInstr{op: api.OpKeep, node: node})
	}
}

// own: a node's own code.
func (d *plainDay) own(x api.Node) {
	switch x.Op {
	case api.XNum:
		d.put(api.OpConst, slices.Index(d.p.Pool, x.Num), 0)
	case api.XTrue:
		d.put(api.OpBool, 1, 0)
	case api.XFalse:
		d.put(api.OpBool, 0, 0)
	case api.XObs:
		d.put(api.OpObs, slices.Index(d.p.Names, d.n.Names[x.Num]), d.day-x.Day)
	case api.XCell:
		d.put(api.OpLoad, slices.Index(d.cells, x.Num), 0)
	case api.XAnd:
		d.value(x.A)
		no := d.jump(api.OpZero)
		d.value(x.B)
		end := d.jump(api.OpJump)
		*no = len(d.code)
		d.put(api.OpBool, 0, 0)
		*end = len(d.code)
	case api.XOr:
		d.value(x.A)
		no := d.jump(api.OpZero)
		d.put(api.OpBool, 1, 0)
		end := d.jump(api.OpJump)
		*no = len(d.code)
		d.value(x.B)
		*end = len(d.code)
	case api.XIf:
		d.value(x.A)
		no := d.jump(api.OpZero)
		d.value(x.B)
		end := d.jump(api.OpJump)
		*no = len(d.code)
		d.value(x.C)
		*end = len(d.code)
	default:
		for _, kid := range []int{x.A, x.B, x.C} {
			if kid >= 0 {
				d.value(kid)
			}
		}
		op, _ := code.Find(plainNames()[x.Op])
		d.put(op, x.Num, 0)
	}
}

func plainNames() map[int]string {
	return map[int]string{api.XNeg: "neg", api.XNot: "not", api.XAdd: "add", api.XSub: "sub", api.XMul: "mul", api.XDiv: "div", api.XMod: "mod", api.XLt: "lt", api.XLe: "le",
		api.XGt: "gt", api.XGe: "ge", api.XEq: "eq", api.XNe: "ne", api.XMin: "min", api.XMax: "max", api.XAbs: "abs", api.XRatio: "ratio"}
}

func (d *plainDay) action(a api.NAction) {
	type test struct {
		height int
		fails  *int
	}
	var tests []test
	height, highest := 0, 0
	for _, s := range a.Steps {
		if s.Kind == api.StepTest {
			d.value(s.E)
			if !s.Want {
				d.put(api.OpNot, 0, 0)
			}
			tests = append(tests, test{height, d.jump(api.OpZero)})
			highest = max(highest, height)
		}
		if s.Kind == api.StepTimes {
			d.value(s.E)
			height++
		}
	}
	drops, over := height, (*int)(nil)
	if a.E >= 0 {
		d.value(a.E)
		for i := range a.Steps {
			switch a.Steps[len(a.Steps)-1-i].Kind {
			case api.StepTimes:
				d.put(api.OpMul, 0, 0)
			case api.StepGive:
				d.put(api.OpNeg, 0, 0)
			}
		}
		if a.Kind == api.ActFlow {
			d.put(api.OpFlow, slices.Index(d.p.Curs, a.Cur), 0)
		} else {
			d.put(api.OpStore, slices.Index(d.cells, a.Cell), 0)
		}
		drops = highest
		if highest > 0 {
			over = d.jump(api.OpJump)
		}
	}
	first := len(d.code)
	for range drops {
		d.put(api.OpDrop, 0, 0)
	}
	for _, x := range tests {
		*x.fails = first + drops - x.height
	}
	if over != nil {
		*over = first + drops
	}
}

// written: a day's code, and the nodes that it keeps and those that it gets, each in the order in which they first come.
func (d *plainDay) written() (list []api.Instr, kept, got []int) {
	d.code = nil
	for _, a := range d.n.Actions {
		if a.Day == d.day {
			d.action(a)
		}
	}
	d.put(api.OpEnd, 0, 0)
	for at, i := range d.code {
		if i.op == api.OpKeep && !slices.Contains(kept, i.node) {
			kept = append(kept, i.node)
		}
		if i.op == api.OpGet && !slices.Contains(got, i.node) {
			got = append(got, i.node)
		}
		if i.op == api.OpKeep || i.op == api.OpGet {
			i.a = slices.Index(kept, i.node)
		}
		if i.to != nil {
			i.a = *i.to - at - 1
		}
		list = append(list, api.Instr{Op: i.op, A: i.a, B: i.b})
	}
	return list, kept, got
}

// plainHeight: the greatest height of a day's code.
func plainHeight(list []api.Instr) int {
	heights := make([]int, len(list)+1)
	for at, i := range list {
		takes, puts, _ := code.Effect(i.Op)
		behind := heights[at] - takes + puts
		if i.Op == api.OpJump || i.Op == api.OpZero {
			heights[at+1+i.A] = behind
		}
		if i.Op != api.OpJump {
			heights[at+1] = behind
		}
	}
	return slices.Max(heights)
}

// plainLists: a program with its lists alone, and the cells that are named, in their order.
func plainLists(n api.Normal) (p api.Program, cells []int) {
	p.Horizon = n.Horizon
	for _, x := range n.Nodes {
		switch x.Op {
		case api.XObs:
			p.Names = append(p.Names, n.Names[x.Num])
		case api.XNum:
			p.Pool = append(p.Pool, x.Num)
		case api.XCell:
			cells = append(cells, x.Num)
		}
	}
	for _, a := range n.Actions {
		if a.E >= 0 && a.Kind == api.ActFlow {
			p.Curs = append(p.Curs, a.Cur)
		}
		if a.E >= 0 && a.Kind == api.ActSet {
			cells = append(cells, a.Cell)
		}
	}
	slices.Sort(p.Names)
	slices.Sort(p.Curs)
	slices.Sort(p.Pool)
	slices.Sort(cells)
	p.Names, p.Curs, p.Pool, cells = slices.Compact(p.Names), slices.Compact(p.Curs), slices.Compact(p.Pool), slices.Compact(cells)
	p.Cells = len(cells)
	return p, cells
}

// plainLower: the program of a form that is valid, and of each of its days the nodes that are kept.
func plainLower(n api.Normal, share bool) (api.Program, map[int][]int) {
	p, cells := plainLists(n)
	lists, shared := p, map[int][]int{}
	for day := range n.Horizon + 1 {
		if !slices.ContainsFunc(n.Actions, func(a api.NAction) bool { return a.Day == day }) {
			continue
		}
		d := &plainDay{n: n, p: lists, cells: cells, day: day, keeps: func(int) bool { return false }}
		if share {
			d.keeps = func(node int) bool { return plainShareable(n, node) }
			_, _, wanted := d.written()
			d.keeps = func(node int) bool { return slices.Contains(wanted, node) }
		}
		list, kept, _ := d.written()
		shared[day] = kept
		p.Days = append(p.Days, api.Segment{Day: day, Code: list})
		p.Slots, p.Stack = max(p.Slots, len(kept)), max(p.Stack, plainHeight(list))
	}
	return p, shared
}

// shown: a program as text.
func shown(p api.Program) string {
	text, e := asm.Print(p)
	if e != api.OK {
		return strings.TrimSpace(e.Error())
	}
	return text
}

// lowered: what Lower answers to a form that is valid.
func lowered(t *testing.T, n api.Normal, share bool) api.Program {
	t.Helper()
	p, e := lower.Lower(n, share)
	if e != api.OK {
		t.Fatalf("Lower(%+v, %v): %d, Valid: %d", n, share, e, dag.Valid(n))
	}
	return p
}

// keptOn: what Shared answers for a day that has actions.
func keptOn(t *testing.T, n api.Normal, day int) []int {
	t.Helper()
	list, e := lower.Shared(n, day)
	if e != api.OK {
		t.Fatalf("Shared(%+v, %d): %d", n, day, e)
	}
	return list
}

// hold holds both calls against the plain reading, for a form that is valid. It tells the program with share.
func hold(t *testing.T, n api.Normal) api.Program {
	t.Helper()
	for _, share := range []bool{true, false} {
		p := lowered(t, n, share)
		if want, _ := plainLower(n, share); !image.Equal(p, want) {
			t.Fatalf("Lower(%+v, %v):\n%s\nwant\n%s", n, share, shown(p), shown(want))
		}
	}
	p, shared := plainLower(n, true)
	for day := -1; day <= n.Horizon+1; day++ {
		want, there := shared[day]
		got, e := lower.Shared(n, day)
		if there && (e != api.OK || !slices.Equal(got, want)) || !there && (e != api.ErrRange || got != nil) {
			t.Fatalf("Shared(%+v, %d): %v, %d, want %v, %v", n, day, got, e, want, there)
		}
	}
	return p
}

// holdRefused: a form that is refused.
func holdRefused(t *testing.T, n api.Normal) {
	t.Helper()
	for _, share := range []bool{true, false} {
		if p, e := lower.Lower(n, share); e != api.ErrArg || !image.Equal(p, api.Program{}) {
			t.Fatalf("Lower(%+v): %+v, %d; Valid: %d", n, p, e, dag.Valid(n))
		}
	}
	for _, day := range []int{-1 << 63, -1, 0, 1, 5, 3660, 1<<63 - 1} {
		if list, e := lower.Shared(n, day); e != api.ErrArg || list != nil {
			t.Fatalf("Shared(%+v, %d): %v, %d; Valid: %d", n, day, list, e, dag.Valid(n))
		}
	}
}
