package dag

import "payoff/api"

// counter goes through nodes as they are numbered.
type counter struct {
	nodes []api.Node
	next  int // those ahead of it have been reached
}

// isOrdered tells whether numbering the actions would give each node the number that it has, and leave none out.
func (c *checker) isOrdered() bool {
	count := &counter{nodes: c.Nodes}
	for _, a := range c.Actions {
		if !count.reachAll(expressionsOf(a)) {
			return false
		}
	}
	return count.next == len(c.Nodes)
}

func (c *counter) reachAll(numbers []int) bool {
	for _, number := range numbers {
		if !c.reach(number) {
			return false
		}
	}
	return true
}

// reach tells whether a node was reached ahead of now, or is the next to be, its kids ahead of it.
func (c *counter) reach(number int) bool {
	if number < c.next {
		return true
	}
	kids, _ := partsOf(c.nodes[number])
	if !c.reachAll(kids) {
		return false
	}
	c.next++
	return number == c.next-1
}

// expressionsOf tells the nodes that an action names, in the order in which they are numbered.
func expressionsOf(a api.NAction) []int {
	var numbers []int
	for _, s := range a.Steps {
		if s.Kind != api.StepGive {
			numbers = append(numbers, s.E)
		}
	}
	if a.E != none {
		numbers = append(numbers, a.E)
	}
	return numbers
}
