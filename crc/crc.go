// Package crc is layer 2: sums that tell changed bytes: see shared/doc/02-crc.md.
package crc

// size is how many bytes a sum has behind what it is of.
const size = 4

// halves: what a register of just these four bits, half a byte, is when it has gone four to the
// right. Exclusive or keeps bits apart: so the upper bits may go their way by themselves.
var halves = [16]uint32{
	0x00000000, 0x105EC76F, 0x20BD8EDE, 0x30E349B1,
	0x417B1DBC, 0x5125DAD3, 0x61C69362, 0x7198540D,
	0x82F63B78, 0x92A8FC17, 0xA24BB5A6, 0xB21572C9,
	0xC38D26C4, 0xD3D3E1AB, 0xE330A81A, 0xF36E6F75,
}

// Sum: of parts, one behind the other.
func Sum(parts ...[]byte) uint32 {
	// The register's first 1s, all turned, are 0: the sum of no bytes.
	var sum uint32
	for _, b := range parts {
		sum = More(sum, b)
	}
	return sum
}

// More: the sum of bytes, and others behind them.
func More(sum uint32, b []byte) uint32 {
	register := ^sum
	for _, c := range b {
		register ^= uint32(c)
		register = register>>4 ^ halves[register&15]
		register = register>>4 ^ halves[register&15]
	}
	return ^register
}

// Close: bytes, and their sum behind them.
func Close(b []byte) []byte {
	sum := Sum(b)
	// Made whole, not appended to b: b's spare room isn't ours.
	closed := make([]byte, len(b)+size)
	copy(closed, b)
	for i := range size {
		closed[len(b)+i] = byte(sum >> (8 * i))
	}
	return closed
}

// Open: the bytes ahead of their sum; false: it isn't theirs.
func Open(b []byte) ([]byte, bool) {
	if len(b) < size {
		return nil, false
	}
	n := len(b) - size
	var sum uint32
	for i := range size {
		sum |= uint32(b[n+i]) << (8 * i)
	}
	if sum != Sum(b[:n]) {
		return nil, false
	}
	opened := make([]byte, n)
	copy(opened, b)
	return opened, true
}
