package crc_test

import (
	"bytes"
	"hash/crc32"
	"testing"

	"scriptor/crc"
)

// sumByRule is the sum as the document says it, bit by bit.
func sumByRule(b []byte) uint32 {
	register := ^uint32(0)
	for _, c := range b {
		for bit := range 8 {
			register ^= uint32(c) >> bit & 1
			out := register & 1
			register >>= 1
			if out == 1 {
				register ^= 0x82F63B78
			}
		}
	}
	return ^register
}

// message is n bytes of all kinds.
func message(n int) []byte {
	b := make([]byte, n)
	for i := range b {
		b[i] = byte(i*i*7 + i*31 + n)
	}
	return b
}

// P2.1: sums that others tell of the same bytes (RFC 3720, B.4, among them).
func TestSumsKnown(t *testing.T) {
	rise, fall := make([]byte, 32), make([]byte, 32)
	for i := range 32 {
		rise[i], fall[i] = byte(i), byte(31-i)
	}
	for _, x := range []struct {
		b    []byte
		want uint32
	}{
		{nil, 0}, {[]byte{}, 0}, {[]byte("123456789"), 0xE3069283}, {[]byte("a"), 0xC1D04330}, {[]byte{0}, 0x527D5351},
		{make([]byte, 32), 0x8A9136AA}, {bytes.Repeat([]byte{255}, 32), 0x62A8AB43}, {rise, 0x46DD794E}, {fall, 0x113FDB5C},
	} {
		if got := crc.Sum(x.b); got != x.want {
			t.Errorf("Sum(%x) = %08X, not %08X", x.b, got, x.want)
		}
	}
}

// P2.1: all bytes, and many lengths.
func TestSumsByRule(t *testing.T) {
	castagnoli := crc32.MakeTable(crc32.Castagnoli)
	for n := range 600 {
		b := message(n)
		if got := crc.Sum(b); got != sumByRule(b) || got != crc32.Checksum(b, castagnoli) {
			t.Fatalf("%d bytes: %08X, not %08X", n, got, sumByRule(b))
		}
	}
	for c := range 256 {
		if b := []byte{byte(c)}; crc.Sum(b) != sumByRule(b) {
			t.Errorf("byte %d: %08X, not %08X", c, crc.Sum(b), sumByRule(b))
		}
	}
}

// P2.1: bytes in parts have the sum of all of them, wherever they are cut.
func TestParts(t *testing.T) {
	b := message(40)
	want := sumByRule(b)
	for i := range len(b) + 1 {
		for j := i; j <= len(b); j++ {
			if got := crc.Sum(b[:i], nil, b[i:j], b[j:]); got != want {
				t.Fatalf("cut at %d, %d: %08X, not %08X", i, j, got, want)
			}
		}
		if got := crc.More(crc.Sum(b[:i]), b[i:]); got != want {
			t.Fatalf("More at %d: %08X, not %08X", i, got, want)
		}
	}
	if crc.Sum() != 0 || crc.Sum(nil, []byte{}) != 0 || crc.More(0, nil) != 0 || crc.More(want, nil) != want {
		t.Error("no parts, and empty ones, add nothing")
	}
}

// P2.1: what is closed, and opened again.
func TestCloseAndOpen(t *testing.T) {
	for n := range 600 {
		b := message(n)
		closed := crc.Close(b)
		s := sumByRule(b)
		want := append(message(n), byte(s), byte(s>>8), byte(s>>16), byte(s>>24))
		if !bytes.Equal(closed, want) {
			t.Fatalf("Close of %d bytes: %x, not %x", n, closed, want)
		}
		if opened, ok := crc.Open(closed); !ok || !bytes.Equal(opened, b) {
			t.Fatalf("Open of %d bytes: %x, %v", n, opened, ok)
		}
	}
	if got := crc.Close(nil); !bytes.Equal(got, make([]byte, 4)) {
		t.Errorf("Close(nil) = %x", got)
	}
	if got, ok := crc.Open(make([]byte, 4)); len(got) != 0 || !ok {
		t.Errorf("Open of four noughts: %x, %v", got, ok)
	}
	if got := crc.Close([]byte("123456789")); string(got) != "123456789\x83\x92\x06\xE3" {
		t.Errorf("the lowest byte isn't the first: %x", got)
	}
}

// P2.1: bytes that nothing was closed to: there is no answer beside false.
func TestOpenRefuses(t *testing.T) {
	closed := crc.Close([]byte("abc"))
	wrong := [][]byte{
		nil, {}, {0}, {0, 0}, {0, 0, 0}, {0, 0, 0, 1}, {1, 0, 0, 0}, {255, 255, 255, 255}, make([]byte, 5),
		closed[1:], closed[:len(closed)-1], append(bytes.Clone(closed), 0), append([]byte{0}, closed...),
		[]byte("123456789\xE3\x06\x92\x83"), []byte("123456789"),
	}
	for _, b := range wrong {
		if got, ok := crc.Open(b); ok || len(got) != 0 {
			t.Errorf("Open(%x) = %x, %v", b, got, ok)
		}
	}
	// Of all four bytes just one are the sum of nothing; here those near it.
	for i := range 1 << 16 {
		if _, ok := crc.Open([]byte{byte(i), byte(i >> 8), 0, 0}); ok != (i == 0) {
			t.Errorf("%d: %v", i, ok)
		}
	}
}

// burst changes b, from a bit on, where pattern has a 1.
func burst(b []byte, from int, pattern uint32) {
	for k := range 32 {
		if pattern>>k&1 == 1 {
			b[(from+k)/8] ^= 1 << ((from + k) % 8)
		}
	}
}

// P2.2: bursts of up to 32 bits, wherever they begin, in the sum, too, and across its edge.
func TestBursts(t *testing.T) {
	for _, n := range []int{0, 1, 3, 4, 17, 60} {
		closed := crc.Close(message(n))
		changed := bytes.Clone(closed)
		for length := 1; length <= 32; length++ {
			ends := uint32(1) | 1<<(length-1)
			within := uint32(1)<<(length-1) - 1
			for from := range 8*len(closed) - length + 1 {
				for i := range uint32(40) {
					burst(changed, from, ends|(i*0x9E3779B9+i)&within)
					if got, ok := crc.Open(changed); ok || len(got) != 0 {
						t.Fatalf("%d bytes, %d bits from %d on: opened", n, length, from)
					}
					copy(changed, closed)
				}
			}
		}
	}
}

// P2.2: each burst of up to 12 bits in a short message.
func TestAllShortBursts(t *testing.T) {
	closed := crc.Close([]byte{0x5A, 0, 0xFF})
	for from := range 8 * len(closed) {
		for pattern := uint32(1); pattern < 1<<12 && from+12 <= 8*len(closed); pattern++ {
			burst(closed, from, pattern)
			if _, ok := crc.Open(closed); ok {
				t.Fatalf("%b from %d on: opened", pattern, from)
			}
			burst(closed, from, pattern)
		}
	}
}

// P2.3: what is handed in isn't changed, nor its spare room; answers are new memory.
func TestNothingShared(t *testing.T) {
	room := append(message(20), 0xAA, 0xBB, 0xCC, 0xDD, 0xEE)
	before := bytes.Clone(room)
	b := room[:20]
	closed := crc.Close(b)
	crc.Sum(b, b[:3])
	crc.More(7, b)
	if !bytes.Equal(room, before) {
		t.Errorf("%x was changed to %x", before, room)
	}
	whole := bytes.Clone(closed)
	closed[0]++
	if !bytes.Equal(room, before) {
		t.Error("what Close answers is what was handed in")
	}
	closed[0]--
	b[1]++
	if !bytes.Equal(closed, whole) {
		t.Error("Close kept what was handed in")
	}
	opened, ok := crc.Open(closed)
	if !ok || !bytes.Equal(closed, whole) {
		t.Error("Open changed what was handed in")
	}
	opened[0]++
	opened = append(opened, 1, 2, 3, 4)
	if !bytes.Equal(closed, whole) {
		t.Error("what Open answers is what was handed in")
	}
	closed[2]++
	if opened[2] != whole[2] {
		t.Error("Open kept what was handed in")
	}
}
