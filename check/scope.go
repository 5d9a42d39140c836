package check

// value is what a name is bound to: the sort and the size of what it stands for.
type value struct {
	sort, size int
}

// names is what is bound at some place of a deal.
type names interface {
	lookUp(name string) (value, bool)
}

// nothing is the outermost scope.
type nothing struct{}

func (nothing) lookUp(string) (value, bool) {
	return value{}, false
}

// scope binds one name, inside the scope that it embeds.
type scope struct {
	names
	name string
	value
}

func (s *scope) lookUp(name string) (value, bool) {
	if name == s.name {
		return s.value, true
	}
	return s.names.lookUp(name)
}

// parameters is the scope of a definition's body. They stand in it all at once, so that a long list of them is not gone through for each.
type parameters struct {
	names
	uses map[string]int // of each, how often its argument's size stands in the body's
}

// lookUp gives a parameter no size of its own: what its argument will add is told by its uses.
func (p *parameters) lookUp(name string) (value, bool) {
	if _, bound := p.uses[name]; bound {
		return value{sort: number}, true
	}
	return p.names.lookUp(name)
}

// bind gives the scope of one name more.
func bind(around names, name string, as value) names {
	return &scope{around, name, as}
}

// view is where an expression stands: what is bound there, and the first day on which it may be looked at.
type view struct {
	names
	first int
}

// place is where a contract stands: what is bound there, and when it may be acquired; how often what it counts is counted; and how many nodes stand around an action of it that sets an accumulator (WT), or lets an amount flow (WA).
type place struct {
	names
	window
	copies int
	wt, wa int
}

func (p place) view() view {
	return view{p.names, p.first}
}
