package lower

import "payoff/api"

// none stands where there is no node.
const none = -1

const wordBits = 64

// nodes: a set of nodes by their numbers, a bit each.
type nodes []uint64

// noNodes tells an empty set with room for so many.
func noNodes(count int) nodes {
	return make(nodes, (count+wordBits-1)/wordBits)
}

func (s nodes) has(node int) bool {
	return s[node/wordBits]>>(node%wordBits)&1 == 1
}

func (s nodes) add(node int) {
	s[node/wordBits] |= 1 << (node % wordBits)
}

// meet leaves those that the other set has, too.
func (s nodes) meet(other nodes) {
	for i := range s {
		s[i] &= other[i]
	}
}

// kidsOf tells a node's kids, in order.
func kidsOf(x api.Node) []int {
	var kids []int
	for _, kid := range [...]int{x.A, x.B, x.C} {
		if kid != none {
			kids = append(kids, kid)
		}
	}
	return kids
}

// shareable tells the nodes whose values stay the same all day, and cost more to work out than to get.
func shareable(all []api.Node) nodes {
	fit, varying := noNodes(len(all)), noNodes(len(all))
	for node, x := range all {
		kids := kidsOf(x)
		varies := x.Op == api.XCell
		for _, kid := range kids {
			varies = varies || varying.has(kid)
		}
		switch {
		case varies:
			varying.add(node)
		case len(kids) > 0:
			fit.add(node)
		}
	}
	return fit
}
