package verify

import "payoff/api"

// needs: what code was found to need so far.
type needs struct {
	api.Proof
	slots, cells int
}

// see takes in an instruction, and the stack's height ahead of it.
func (n *needs) see(i api.Instr, height int) {
	n.Fuel++
	n.Stack = max(n.Stack, height)
	switch i.Op {
	case api.OpKeep, api.OpGet:
		n.slots = max(n.slots, i.A+1)
	case api.OpLoad, api.OpStore:
		n.cells = max(n.cells, i.A+1)
	case api.OpObs:
		n.Back = max(n.Back, i.B)
	}
}

// fit tells whether a program's own numbers are just these: neither too small for its runs nor greater than they need.
func (n *needs) fit(p api.Program) bool {
	return p.Stack == n.Stack && p.Slots == n.slots && p.Cells == n.cells
}
