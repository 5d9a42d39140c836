package dag

import (
	"slices"

	"payoff/api"
	"payoff/lex"
)

// actionWeight is what an action weighs beside its steps and its expressions.
const actionWeight = 2

// checker looks through a normal form, and keeps what it has learned of the nodes so far.
type checker struct {
	*api.Normal
	known []knowledge
}

// knowledge is what of a node counts for those that it is a part of.
type knowledge struct {
	sort   byte
	latest int // the last day that it looks at
	size   int // its nodes as an expression; if that is above MaxNodes, MaxNodes + 1
}

func checkerOf(n *api.Normal) *checker {
	return &checker{Normal: n}
}

// fits tells whether all is as it must be, but for how great it is.
func (c *checker) fits() bool {
	return c.frameFits() && c.nodesFit() && c.actionsFit() && c.isOrdered()
}

// frameFits looks at all but the nodes and the actions.
func (c *checker) frameFits() bool {
	if len(c.Names) > api.MaxNames || c.Cells < 0 || c.Cells > api.MaxCells || c.Horizon < 0 || c.Horizon > api.MaxHorizon {
		return false
	}
	for i, name := range c.Names {
		if !lex.Capital(name) || slices.Contains(c.Names[:i], name) {
			return false
		}
	}
	return true
}

// nodesFit looks at the nodes by themselves, and learns what is to be known of them.
func (c *checker) nodesFit() bool {
	unlike := newForm()
	for i, n := range c.Nodes {
		if unlike.keep(n) != i || !c.fieldsFit(n) || !c.partsFit(n) {
			return false
		}
		k := c.learn(n)
		if k.sort == unfit {
			return false
		}
		c.known = append(c.known, k)
	}
	return true
}

func (c *checker) fieldsFit(n api.Node) bool {
	switch n.Op {
	case api.XNum:
		return n.Day == 0
	case api.XObs:
		return n.Num >= 0 && n.Num < len(c.Names) && n.Day >= 0
	case api.XCell:
		return n.Num >= 0 && n.Num < c.Cells && n.Day == 0
	case api.XRatio:
		return n.Num >= api.Down && n.Num <= api.HalfEven && n.Day == 0
	}
	return n.Num == 0 && n.Day == 0
}

// partsFit tells whether a node's parts stand ahead of it.
func (c *checker) partsFit(n api.Node) bool {
	kids, unused := partsOf(n)
	for _, kid := range kids {
		if !c.isKnown(kid) {
			return false
		}
	}
	for _, place := range unused {
		if place != none {
			return false
		}
	}
	return true
}

func (c *checker) isKnown(number int) bool {
	return number >= 0 && number < len(c.known)
}

func (c *checker) learn(n api.Node) knowledge {
	kids, _ := partsOf(n)
	sorts := each(kids, func(kid int) byte { return c.known[kid].sort })
	k := knowledge{sort: ruleOf(n.Op).sortOver(sorts), latest: n.Day, size: 1}
	for _, kid := range kids {
		k.latest = max(k.latest, c.known[kid].latest)
		k.size = min(k.size+c.known[kid].size, api.MaxNodes+1)
	}
	return k
}

func (c *checker) actionsFit() bool {
	day := 0
	for _, a := range c.Actions {
		if a.Day < day || a.Day > c.Horizon || !c.stepsFit(a) || !c.endFits(a) {
			return false
		}
		day = a.Day
	}
	return true
}

func (c *checker) stepsFit(a api.NAction) bool {
	for _, s := range a.Steps {
		if !c.stepFits(s, a.Day) {
			return false
		}
	}
	return true
}

func (c *checker) stepFits(s api.NStep, day int) bool {
	switch s.Kind {
	case api.StepTest:
		return c.isSort(s.E, aTruth, day)
	case api.StepTimes:
		return !s.Want && c.isSort(s.E, aNumber, day)
	case api.StepGive:
		return !s.Want && s.E == 0
	}
	return false
}

// isSort tells whether there is a node of that number and sort that looks at no day behind that one.
func (c *checker) isSort(number int, sort byte, day int) bool {
	return c.isKnown(number) && c.known[number].sort == sort && c.known[number].latest <= day
}

// endFits tells whether what an action comes to behind its steps is right, and goes with these.
func (c *checker) endFits(a api.NAction) bool {
	if a.E == none {
		return a.Kind == api.ActFlow && a.Cur == "" && a.Cell == 0 && len(a.Steps) > 0 && !hasStep(a, api.StepGive)
	}
	if !c.isSort(a.E, aNumber, a.Day) {
		return false
	}
	switch a.Kind {
	case api.ActFlow:
		return lex.Currency(a.Cur) && a.Cell == 0
	case api.ActSet:
		return a.Cur == "" && a.Cell >= 0 && a.Cell < c.Cells && !hasStep(a, api.StepTimes) && !hasStep(a, api.StepGive)
	}
	return false
}

func hasStep(a api.NAction, kind int) bool {
	return slices.ContainsFunc(a.Steps, func(s api.NStep) bool { return s.Kind == kind })
}

// weight tells what the actions of a form that fits weigh together.
func (c *checker) weight() int {
	total := 0
	for _, a := range c.Actions {
		total += actionWeight + len(a.Steps)
		for _, e := range expressionsOf(a) {
			total += c.known[e].size
		}
	}
	return total
}
