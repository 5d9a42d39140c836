package verify

// cell: a value on a stack, by its sort, with all that lies below it. It knows the cells that were put upon it, so that in one day's code no two cells are alike: stacks of the same sorts have the same topmost cell, and holding two against each other costs the same however high they are.
type cell struct {
	sort  sort
	below *cell
	above [truth + 1]*cell
}

// stack: the sorts of the values that are on it.
type stack struct {
	top    *cell // never nil: beneath the lowest value lies a cell of none
	height int
}

// put lays a value on top.
func (s *stack) put(value sort) {
	above := s.top.above[value]
	if above == nil {
		above = &cell{sort: value, below: s.top}
		s.top.above[value] = above
	}
	s.top = above
	s.height++
}

// take takes so many values off the stack, which it must have.
func (s *stack) take(count int) sorts {
	var taken sorts
	for n := range count {
		taken[count-1-n] = s.top.sort
		s.top = s.top.below
	}
	s.height -= count
	return taken
}
