package code

import "payoff/api"

// The numbers of the instructions, which are those of package api: the table's keys.
const (
	opEnd = iota
	opConst
	opBool
	opObs
	opLoad
	opStore
	opKeep
	opGet
	opDrop
	opAdd
	opSub
	opMul
	opNeg
	opDiv
	opMod
	opAbs
	opMin
	opMax
	opRatio
	opLt
	opLe
	opGt
	opGe
	opEq
	opNe
	opNot
	opJump
	opZero
	opFlow
)

// The greatest operands. A program has more cells than a deal may have, as deals are joined.
const (
	lastTruth    = 1
	lastConstant = api.MaxPool - 1
	lastName     = api.MaxNames - 1
	lastCell     = 1<<15 - 1
	lastSlot     = api.MaxSlots - 1
	lastJump     = api.MaxCode - 1
	lastCurrency = api.MaxCurs - 1
)

// row is what is told of an instruction. An operand that it does not have is bounded by 0, so that one rule holds for all.
type row struct {
	name        string
	operands    uint8
	takes, puts uint8
	a, b        int32
}

// rows has a row for each instruction.
var rows = [...]row{
	opEnd:   {name: "end"},
	opConst: {name: "const", operands: 1, a: lastConstant, puts: 1},
	opBool:  {name: "bool", operands: 1, a: lastTruth, puts: 1},
	opObs:   {name: "obs", operands: 2, a: lastName, b: api.MaxHorizon, puts: 1},
	opLoad:  {name: "load", operands: 1, a: lastCell, puts: 1},
	opStore: {name: "store", operands: 1, a: lastCell, takes: 1},
	opKeep:  {name: "keep", operands: 1, a: lastSlot, takes: 1, puts: 1},
	opGet:   {name: "get", operands: 1, a: lastSlot, puts: 1},
	opDrop:  {name: "drop", takes: 1},
	opAdd:   {name: "add", takes: 2, puts: 1},
	opSub:   {name: "sub", takes: 2, puts: 1},
	opMul:   {name: "mul", takes: 2, puts: 1},
	opNeg:   {name: "neg", takes: 1, puts: 1},
	opDiv:   {name: "div", takes: 2, puts: 1},
	opMod:   {name: "mod", takes: 2, puts: 1},
	opAbs:   {name: "abs", takes: 1, puts: 1},
	opMin:   {name: "min", takes: 2, puts: 1},
	opMax:   {name: "max", takes: 2, puts: 1},
	opRatio: {name: "ratio", operands: 1, a: api.HalfEven, takes: 3, puts: 1},
	opLt:    {name: "lt", takes: 2, puts: 1},
	opLe:    {name: "le", takes: 2, puts: 1},
	opGt:    {name: "gt", takes: 2, puts: 1},
	opGe:    {name: "ge", takes: 2, puts: 1},
	opEq:    {name: "eq", takes: 2, puts: 1},
	opNe:    {name: "ne", takes: 2, puts: 1},
	opNot:   {name: "not", takes: 1, puts: 1},
	opJump:  {name: "jump", operands: 1, a: lastJump},
	opZero:  {name: "zero", operands: 1, a: lastJump, takes: 1},
	opFlow:  {name: "flow", operands: 1, a: lastCurrency, takes: 1},
}

// rowOf tells an instruction's row.
func rowOf(op int) (row, api.Errno) {
	if op < 0 || op >= len(rows) {
		return row{}, api.ErrOp
	}
	return rows[op], api.OK
}

// allows tells whether the operands are within their bounds.
func (r row) allows(a, b int) bool {
	return 0 <= a && a <= int(r.a) && 0 <= b && b <= int(r.b)
}
