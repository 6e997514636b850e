// Package crc is layer 1: see shared/doc/01-crc.md.
package crc

// Four bits at a time keep the table short and still take a quarter of the steps that single bits take.
// Entry i is what i comes to when its four bits are shifted out through the polynomial 0x82f63b78.
var fourBits = [16]uint32{
	0x00000000, 0x105ec76f, 0x20bd8ede, 0x30e349b1,
	0x417b1dbc, 0x5125dad3, 0x61c69362, 0x7198540d,
	0x82f63b78, 0x92a8fc17, 0xa24bb5a6, 0xb21572c9,
	0xc38d26c4, 0xd3d3e1ab, 0xe330a81a, 0xf36e6f75,
}

// More is the check of bytes behind others, of which it is known.
func More(sum uint32, s string) uint32 {
	// Turning the bits back undoes the end of the check before, so that it goes on as if it had not ended.
	rest := ^sum
	for i := range len(s) {
		rest ^= uint32(s[i])
		rest = rest>>4 ^ fourBits[rest&15]
		rest = rest>>4 ^ fourBits[rest&15]
	}
	return ^rest
}

// Sum is the check of bytes.
func Sum(s string) uint32 { return More(0, s) }
