package check

import (
	"slices"

	"payoff/api"
)

// What a path begins with.
const (
	inObservables = iota
	inDefinitions
	inContract
)

// misfit is what a survey panics with: the path of the first part that does not fit.
type misfit []int

// pathOf tells the path with which a survey was left, if it was. Any other panic is not the survey's, and goes on.
func pathOf(cause any) ([]int, bool) {
	switch cause := cause.(type) {
	case nil:
		return nil, false
	case misfit:
		return cause, true
	default:
		panic(cause)
	}
}

// definition is what a call needs to know: what the body is worth where each parameter has the size 0, and how often each argument's size comes to that.
type definition struct {
	worth
	uses []int
}

// surveyor goes through a deal, part by part.
type surveyor struct {
	calendar
	observables map[string]struct{}
	definitions map[string]definition
	path        []int // of the part that is looked at
	sum         api.Measure
}

// survey looks at a valid deal's parts in their order, and tells how great it is; it panics at the first part that does not fit.
func survey(d *api.Deal) api.Measure {
	s := &surveyor{calendar: calendarOf(d), observables: map[string]struct{}{}, definitions: map[string]definition{}}
	for i, name := range d.Names {
		s.path = []int{inObservables, i}
		s.observe(name)
	}
	for i := range d.Defs {
		s.path = []int{inDefinitions, i}
		s.define(&d.Defs[i])
	}
	s.path = []int{inContract}
	s.sum.Depth = s.con(&d.Body, place{names: nothing{}, copies: 1})
	s.sum.Names = plus(len(d.Names))
	s.sum.Bytes = plus(1024, times(40, s.sum.Names), times(64, s.sum.Nodes))
	return s.sum
}

// tell leaves the survey with the path of the part that is looked at.
func (s *surveyor) tell() {
	panic(misfit(slices.Clone(s.path)))
}

// enter goes on to a child; leave comes back from it.
func (s *surveyor) enter(child int) {
	s.path = append(s.path, child)
}

func (s *surveyor) leave() {
	s.path = s.path[:len(s.path)-1]
}

func (s *surveyor) observe(name string) {
	if _, known := s.observables[name]; known {
		s.tell()
	}
	s.observables[name] = struct{}{}
}

func (s *surveyor) define(d *api.Def) {
	if _, known := s.definitions[d.Name]; known {
		s.tell()
	}
	uses := map[string]int{}
	for _, name := range d.Params {
		uses[name] = 0
	}
	if len(uses) < len(d.Params) {
		s.tell()
	}
	s.enter(0)
	// No observation is too far back in a definition: its calls are looked at for that.
	body := s.expr(&d.Body, view{&parameters{nothing{}, uses}, most})
	s.count(&d.Body, 1, uses)
	list := make([]int, len(d.Params))
	for i, name := range d.Params {
		list[i] = uses[name]
	}
	s.definitions[d.Name] = definition{body, list}
}

// count adds up how often each parameter's size comes to that of a body in which the expression stands so many times.
func (s *surveyor) count(e *api.Expr, copies int, uses map[string]int) {
	if e.Op == api.XName {
		uses[e.Name] = plus(uses[e.Name], copies)
	}
	for i := range e.Kids {
		s.count(&e.Kids[i], times(copies, s.copies(e, i)), uses)
	}
}
