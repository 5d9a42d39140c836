package code_test

import (
	"bytes"
	"math"
	"slices"
	"testing"

	"payoff/api"
)

// P1104: MaxCode instructions are written; with one more ErrLong comes ahead of ErrOp.
func TestEncodeLimit(t *testing.T) {
	most := slices.Repeat([]api.Instr{{Op: api.OpZero, A: api.MaxCode - 1}}, api.MaxCode)
	want := bytes.Repeat([]byte{27, 0xff, 0xff, 15}, api.MaxCode)
	wantBytes(t, most, want, api.OK)
	wantRead(t, want, api.MaxCode, most, 0, api.OK)
	wantBytes(t, append(slices.Clone(most), api.Instr{}), nil, api.ErrLong)
	wantBytes(t, append(slices.Clone(most), api.Instr{Op: -1}), nil, api.ErrLong)
	wrong := slices.Clone(most)
	wrong[api.MaxCode-1].A++
	wantBytes(t, wrong, nil, api.ErrOp)
	wantBytes(t, append(wrong, wrong...), nil, api.ErrLong)
	wantBytes(t, nil, nil, api.OK)
	wantBytes(t, []api.Instr{}, nil, api.OK)
}

// P1105: the count is looked at ahead of the bytes.
func TestDecodeCount(t *testing.T) {
	long := make([]byte, api.MaxCode+1)
	for _, b := range [][]byte{nil, {}, {0}, {29}, {0x80}, {2, 2}, long} {
		for _, count := range []int{-1, -2, -api.MaxCode, math.MinInt} {
			wantRead(t, b, count, nil, 0, api.ErrArg)
		}
		for _, count := range []int{api.MaxCode + 1, 1 << 32, 1<<32 + 1, math.MaxInt} {
			wantRead(t, b, count, nil, 0, api.ErrLong)
		}
	}
	wantRead(t, nil, api.MaxCode, nil, 0, api.ErrShort)
	wantRead(t, long[1:], api.MaxCode, make([]api.Instr, api.MaxCode), 0, api.OK)
	wantRead(t, long, api.MaxCode, nil, api.MaxCode, api.ErrExtra)
	wantRead(t, long[2:], api.MaxCode, nil, api.MaxCode-1, api.ErrShort)
	wantRead(t, []byte{}, 0, nil, 0, api.OK)
}
