// Package sums is layer 1: the 32-bit checksum CRC-32C, of a whole byte string or piece by piece.
package sums

// polynomial is the one of CRC-32C, its bits reversed: the register is shifted to the right.
const polynomial uint32 = 0x82F63B78

// Of is the checksum of b.
func Of(b []byte) uint32 { return More(0, b) }

// More is the checksum of a byte string followed by b, where sum is that byte string's checksum.
func More(sum uint32, b []byte) uint32 {
	register := ^sum
	for _, c := range b {
		register = process(register, c)
	}
	return ^register
}

func process(register uint32, c byte) uint32 {
	register ^= uint32(c)
	for range 8 {
		out := register & 1
		register >>= 1
		if out == 1 {
			register ^= polynomial
		}
	}
	return register
}
