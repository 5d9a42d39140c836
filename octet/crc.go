package octet

import "sync"

// polynomial is that of CRC-32 with its bits turned about, as the bits of each byte go from the lowest up.
const polynomial = 0xEDB88320

// crcTable tells for each byte what its eight bits do to a checksum.
type crcTable struct {
	once  sync.Once
	steps []uint32
}

var table = crcTable{}

// Crc tells the CRC-32 of b.
func Crc(b []byte) uint32 {
	steps := byteSteps()
	sum := ^uint32(0)
	for _, c := range b {
		sum = steps[byte(sum)^c] ^ sum>>8
	}
	return ^sum
}

func byteSteps() []uint32 {
	table.once.Do(func() { table.steps = makeSteps() })
	return table.steps
}

func makeSteps() []uint32 {
	steps := make([]uint32, 256)
	for i := range steps {
		steps[i] = eightBits(uint32(i))
	}
	return steps
}

func eightBits(sum uint32) uint32 {
	for range 8 {
		if sum&1 == 1 {
			sum = sum>>1 ^ polynomial
		} else {
			sum >>= 1
		}
	}
	return sum
}
