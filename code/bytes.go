package code

import (
	"payoff/api"
	"payoff/octet"
)

// appendInstr puts the bytes of a valid instruction behind b.
func appendInstr(b []byte, i api.Instr) []byte {
	operands := [...]int{i.A, i.B}
	b = append(b, byte(i.Op))
	for _, operand := range operands[:rows[i.Op].operands] {
		b = octet.AppendUint(b, uint64(operand))
	}
	return b
}

// readAll reads the instructions that b must be, as many as count.
func readAll(b []byte, count int) ([]api.Instr, int, api.Errno) {
	r := octet.NewReader(b)
	// An instruction has a byte at least: so a great count alone takes no room.
	list := make([]api.Instr, 0, min(count, len(b)))
	for range count {
		i, place, e := readInstr(r)
		if e != api.OK {
			return nil, place, e
		}
		list = append(list, i)
	}
	if r.Left() > 0 {
		return nil, r.Place(), api.ErrExtra
	}
	return list, 0, api.OK
}

// readInstr reads an instruction; with an error the place.
func readInstr(r *octet.Reader) (api.Instr, int, api.Errno) {
	begin := r.Place()
	first, e := r.Take(1)
	if e != api.OK {
		return api.Instr{}, begin, e
	}
	op := int(first[0])
	rule, e := rowOf(op)
	if e != api.OK {
		return api.Instr{}, begin, e
	}
	bounds, operands := [...]int32{rule.a, rule.b}, [...]int{0, 0}
	for n := range int(rule.operands) {
		x, e := r.Uint(uint64(bounds[n]))
		if e != api.OK {
			return api.Instr{}, placeOf(e, r), e
		}
		operands[n] = int(x)
	}
	return api.Instr{Op: op, A: operands[0], B: operands[1]}, 0, api.OK
}

// placeOf tells where a number that the reader has refused goes wrong: the reader stands at its first byte, but bytes that end too early do so at their end.
func placeOf(e api.Errno, r *octet.Reader) int {
	if e == api.ErrShort {
		return r.Place() + r.Left()
	}
	return r.Place()
}
