// Package crc is layer 1: sums that tell torn bytes. See shared/doc/01-crc.md.
package crc

// divisor is the polynomial without its power 32. The power 31 is the lowest bit, since each byte's lowest bit comes first.
const divisor uint32 = 0xedb88320

// Update is a sum that goes on over more bytes.
func Update(sum uint32, b []byte) uint32 {
	rest := ^sum // a sum is told with its bits turned
	for _, c := range b {
		rest = divide(rest ^ uint32(c))
	}
	return ^rest
}

// divide is the remainder once the eight lowest bits of rest are divided away.
func divide(rest uint32) uint32 {
	for range 8 {
		if rest&1 == 1 {
			rest = rest>>1 ^ divisor
		} else {
			rest >>= 1
		}
	}
	return rest
}

// Sum is a text's sum.
func Sum(b []byte) uint32 { return Update(0, b) }
