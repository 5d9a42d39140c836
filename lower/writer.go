package lower

import (
	"slices"

	"payoff/api"
	"payoff/code"
)

// point: what is known of a place in the code, whichever way a run comes there.
type point struct {
	reached bool
	height  int   // of the stack
	kept    nodes // surely kept
}

// meet lets one way more come to a point. (The heights are the same on all of them.)
func (p *point) meet(other point) {
	if !p.reached {
		*p = other
		return
	}
	p.kept.meet(other.kept)
}

// leap: a jump that is written, whose length is not known yet.
type leap struct {
	land func() // puts the length in, and lets its way come here; to be called once, when the place is reached
}

// writer writes the code of days, one day behind the other.
type writer struct {
	lists
	form      api.Normal
	shareable nodes
	highest   int // of the stack's heights on all days so far

	// Of the day that is written:
	day   int
	keeps nodes       // those behind whose code there is a keep
	gets  nodes       // those of which there was a get
	slots map[int]int // by node
	code  []api.Instr
	now   point // behind the code that is there
}

// newWriter tells one for a valid form.
func newWriter(n api.Normal) *writer {
	return &writer{lists: listsOf(n), form: n, shareable: shareable(n.Nodes), slots: map[int]int{}}
}

// write writes the code of a day, which has these actions.
func (w *writer) write(actions []api.NAction, share bool) {
	keeps := w.noNodes()
	if share {
		// What is got is known only when all is written. Keeps of what is never got are left out then, which changes none of the gets.
		w.pass(actions, w.shareable)
		keeps = w.gets
	}
	w.pass(actions, keeps)
}

// pass writes a day's code with keeps of these nodes.
func (w *writer) pass(actions []api.NAction, keeps nodes) {
	clear(w.slots)
	w.day, w.keeps, w.gets = actions[0].Day, keeps, w.noNodes()
	w.code, w.now = nil, point{reached: true, kept: w.noNodes()}
	for _, a := range actions {
		w.action(a)
	}
	w.put(api.OpEnd, 0, 0)
}

func (w *writer) noNodes() nodes {
	return noNodes(len(w.form.Nodes))
}

// put writes an instruction.
func (w *writer) put(op, a, b int) {
	takes, puts, _ := code.Effect(op)
	w.now.height += puts - takes
	w.highest = max(w.highest, w.now.height)
	w.code = append(w.code, api.Instr{Op: op, A: a, B: b})
}

// leap writes a jump or a zero to a place that is reached later.
func (w *writer) leap(op int) leap {
	at := len(w.code)
	w.put(op, 0, 0)
	from := w.now
	if op == api.OpJump {
		w.now = point{}
	} else {
		w.now.kept = slices.Clone(from.kept)
	}
	return leap{land: func() {
		w.code[at].A = len(w.code) - at - 1
		w.now.meet(from)
	}}
}

// slotOf tells a node's slot: the next one, if it has none yet.
func (w *writer) slotOf(node int) int {
	slot, there := w.slots[node]
	if !there {
		slot = len(w.slots)
		w.slots[node] = slot
	}
	return slot
}

// inSlots tells the nodes that have slots, in the order of these.
func (w *writer) inSlots() []int {
	list := make([]int, len(w.slots))
	for node, slot := range w.slots {
		list[slot] = node
	}
	return list
}
