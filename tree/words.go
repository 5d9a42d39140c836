package tree

import "payoff/api"

// Levels of expressions, from the loosest on: one of a lower level than its place wants stands in parentheses.
const (
	levelIf = 1 + iota
	levelOr
	levelAnd
	levelCompare
	levelSum
	levelProduct
	levelSign
	levelAtom
)

// operator stands between two operands.
type operator struct {
	mark  string
	op    int
	level int
}

var operators = []operator{
	{"||", api.XOr, levelOr},
	{"&&", api.XAnd, levelAnd},
	{"<", api.XLt, levelCompare},
	{"<=", api.XLe, levelCompare},
	{">", api.XGt, levelCompare},
	{">=", api.XGe, levelCompare},
	{"==", api.XEq, levelCompare},
	{"!=", api.XNe, levelCompare},
	{"+", api.XAdd, levelSum},
	{"-", api.XSub, levelSum},
	{"*", api.XMul, levelProduct},
	{"/", api.XDiv, levelProduct},
	{"%", api.XMod, levelProduct},
}

// first tells the least level of an operator's first part. Rows are taken to the left, but comparisons stand in none.
func (o operator) first() int {
	if o.level == levelCompare {
		return o.level + 1
	}
	return o.level
}

// second tells the least level of an operator's second part.
func (o operator) second() int {
	return o.level + 1
}

// conventions are the words for them; the first has none.
var conventions = [...]string{
	api.Unadjusted: "",
	api.Following:  "following",
	api.Modified:   "modified",
	api.Preceding:  "preceding",
}

// modes are the words for the roundings of a ratio.
var modes = [...]string{
	api.Down:     "down",
	api.Floor:    "floor",
	api.Ceil:     "ceil",
	api.HalfUp:   "half_up",
	api.HalfEven: "half_even",
}

// units are the letters for the units of a tenor.
var units = [...]string{
	api.UnitDay:   "d",
	api.UnitWeek:  "w",
	api.UnitMonth: "m",
	api.UnitYear:  "y",
}
