package verify

import "payoff/api"

// sort: what a value is: a number or a truth.
type sort uint8

const (
	none sort = iota // no value
	number
	truth
	either
)

// sorts: of values on top of the stack, the topmost last. No instruction takes more than three; what is left behind them is none.
type sorts [3]sort

// rule: the sorts of what an instruction takes and puts.
type rule struct {
	takes sorts
	puts  sort
}

// rules: by Op. What keep and get put is not here, as it hangs on the values.
var rules = [...]rule{
	api.OpEnd:   {},
	api.OpConst: {puts: number},
	api.OpBool:  {puts: truth},
	api.OpObs:   {puts: number},
	api.OpLoad:  {puts: number},
	api.OpStore: {takes: sorts{number}},
	api.OpKeep:  {takes: sorts{either}},
	api.OpGet:   {},
	api.OpDrop:  {takes: sorts{either}},
	api.OpAdd:   {takes: sorts{number, number}, puts: number},
	api.OpSub:   {takes: sorts{number, number}, puts: number},
	api.OpMul:   {takes: sorts{number, number}, puts: number},
	api.OpNeg:   {takes: sorts{number}, puts: number},
	api.OpDiv:   {takes: sorts{number, number}, puts: number},
	api.OpMod:   {takes: sorts{number, number}, puts: number},
	api.OpAbs:   {takes: sorts{number}, puts: number},
	api.OpMin:   {takes: sorts{number, number}, puts: number},
	api.OpMax:   {takes: sorts{number, number}, puts: number},
	api.OpRatio: {takes: sorts{number, number, number}, puts: number},
	api.OpLt:    {takes: sorts{number, number}, puts: truth},
	api.OpLe:    {takes: sorts{number, number}, puts: truth},
	api.OpGt:    {takes: sorts{number, number}, puts: truth},
	api.OpGe:    {takes: sorts{number, number}, puts: truth},
	api.OpEq:    {takes: sorts{number, number}, puts: truth},
	api.OpNe:    {takes: sorts{number, number}, puts: truth},
	api.OpNot:   {takes: sorts{truth}, puts: truth},
	api.OpJump:  {},
	api.OpZero:  {takes: sorts{truth}},
	api.OpFlow:  {takes: sorts{number}},
}

// takesAll tells whether an instruction takes values of these sorts, which are as many as it wants.
func takesAll(op int, taken sorts) bool {
	wanted := rules[op].takes
	return wanted == taken || wanted == sorts{either}
}
