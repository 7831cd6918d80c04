package wire_test

import (
	"bytes"
	"math"
	"strings"
	"testing"

	"scriptor/api"
	"scriptor/wire"
)

// numbers are numbers of one to ten bytes, around all edges between, and others.
func numbers() []int {
	list := []int{0, math.MinInt, math.MaxInt}
	for shift := range 64 {
		power := 1 << shift
		list = append(list, power-1, power, power+1, -power-1, -power, -power+1)
	}
	u := uint64(1)
	for range 300 {
		u += 0x9E3779B97F4A7C15
		list = append(list, int(u), int(u>>(u%60)))
	}
	return list
}

// byRule is a number's bytes, as the document says them.
func byRule(n int) []byte {
	u := 2 * uint64(n)
	if n < 0 {
		u = 2*uint64(-n) - 1
	}
	var b []byte
	for {
		b = append(b, byte(u%128))
		u /= 128
		if u == 0 {
			return b
		}
		b[len(b)-1] += 128
	}
}

func open(s string) *wire.In { return wire.Open([]byte(s)) }

// P3.1: a number's bytes.
func TestNumBytes(t *testing.T) {
	for n, want := range map[int]string{
		0: "\x00", -1: "\x01", 1: "\x02", 63: "\x7e", -64: "\x7f", 64: "\x80\x01", -65: "\x81\x01", 8191: "\xfe\x7f", 8192: "\x80\x80\x01",
		math.MaxInt: "\xfe\xff\xff\xff\xff\xff\xff\xff\xff\x01", math.MinInt: "\xff\xff\xff\xff\xff\xff\xff\xff\xff\x01",
	} {
		if got := wire.Num(n); string(got) != want {
			t.Errorf("Num(%d) = %x, not %x", n, got, want)
		}
	}
	for _, n := range numbers() {
		if got := wire.Num(n); !bytes.Equal(got, byRule(n)) {
			t.Errorf("Num(%d) = %x, not %x", n, got, byRule(n))
		}
	}
}

// P3.1: a text's bytes: any bytes, and none.
func TestStrBytes(t *testing.T) {
	for s, want := range map[string]string{"": "\x00", "ab": "\x04ab", "\x00\xff\x80": "\x06\x00\xff\x80", "é": "\x04\xc3\xa9"} {
		if got := wire.Str(s); string(got) != want {
			t.Errorf("Str(%q) = %x, not %x", s, got, want)
		}
	}
	for _, n := range []int{63, 64, 5000, 1 << 20} {
		s := strings.Repeat("x", n)
		if got := wire.Str(s); string(got) != string(byRule(n))+s {
			t.Errorf("Str of %d bytes begins %x", n, got[:4])
		}
	}
}

// P3.2, P2: what is written is read again, alone and in a row.
func TestReadAgain(t *testing.T) {
	var row []byte
	for _, n := range numbers() {
		i := wire.Open(wire.Num(n))
		if got := i.Num(math.MinInt, math.MaxInt); got != n || i.Left() != 0 || i.End() != api.OK {
			t.Errorf("%d comes back as %d, %d", n, got, i.Err())
		}
		row = append(row, wire.Num(n)...)
		row = append(row, wire.Str(strings.Repeat("y", n&127))...)
	}
	in := wire.Open(row)
	left := len(row)
	for _, n := range numbers() {
		if got := in.Num(n, n); got != n {
			t.Fatalf("%d comes back as %d, %d", n, got, in.Err())
		}
		left -= len(wire.Num(n))
		if in.Left() != left {
			t.Fatalf("%d are left, not %d", in.Left(), left)
		}
		if got := in.Str(127); got != strings.Repeat("y", n&127) {
			t.Fatalf("a text of %d bytes comes back as %q", n&127, got)
		}
		left -= len(wire.Str(strings.Repeat("y", n&127)))
	}
	if in.Left() != 0 || in.End() != api.OK || in.Err() != api.OK {
		t.Errorf("%d are left, %d", in.Left(), in.End())
	}
}

// P3.2: of all bytes up to three, and of edges of ten, just those that Num makes are read as numbers.
func TestNothingElseIsRead(t *testing.T) {
	check := func(b []byte) {
		i := wire.Open(b)
		n := i.Num(math.MinInt, math.MaxInt)
		size := len(b) - i.Left()
		if i.Err() == api.OK && !bytes.Equal(byRule(n), b[:size]) {
			t.Fatalf("%x is read as %d, whose bytes are %x", b, n, byRule(n))
		}
		if i.Err() != api.OK && (n != 0 || size != 0) {
			t.Fatalf("%x: %d and %d bytes beside error %d", b, n, size, i.Err())
		}
	}
	for u := range 1 << 16 {
		check([]byte{byte(u >> 8)})
		check([]byte{byte(u >> 8), byte(u)})
		check([]byte{0x80, byte(u >> 8), byte(u)})
		check([]byte{0xFF, byte(u >> 8), byte(u)})
		check(append(bytes.Repeat([]byte{0x80}, 8), byte(u>>8), byte(u)))
		check(append(bytes.Repeat([]byte{0xFF}, 8), byte(u>>8), byte(u), 0))
	}
}

// P3.1: numbers that are none, and which error that is.
func TestNumRefuses(t *testing.T) {
	nine := strings.Repeat("\xff", 9)
	for s, want := range map[string]api.Errno{
		"": api.ErrTail, "\x80": api.ErrTail, "\xff\xff": api.ErrTail, nine: api.ErrTail, strings.Repeat("\x80", 9): api.ErrTail,
		"\x80\x00": api.ErrForm, "\x80\x00\x05": api.ErrForm, "\xff\x80\x00": api.ErrForm,
		nine + "\x00": api.ErrForm, nine + "\x02": api.ErrForm, nine + "\x80": api.ErrForm, nine + "\x81\x00": api.ErrForm, nine + "\xff": api.ErrForm,
		strings.Repeat("\x80", 9) + "\x00": api.ErrForm,
	} {
		for _, most := range []int{math.MaxInt, 0, -1} {
			i := open(s)
			if n := i.Num(math.MinInt, most); n != 0 || i.Err() != want || i.Left() != len(s) || i.End() != want {
				t.Errorf("%x: %d, %d, %d left", s, n, i.Err(), i.Left())
			}
			i = open(s)
			if got := i.Str(most); got != "" || i.Err() != want || i.Left() != len(s) {
				t.Errorf("%x as a text: %q, %d, %d left", s, got, i.Err(), i.Left())
			}
		}
	}
}

// P3.1: numbers between two, the edges among them.
func TestNumBounds(t *testing.T) {
	for _, x := range []struct {
		n, least, most int
		want           api.Errno
	}{
		{5, 5, 5, api.OK}, {5, 0, 5, api.OK}, {5, 5, 9, api.OK}, {-5, -5, 5, api.OK}, {0, 0, 0, api.OK},
		{math.MinInt, math.MinInt, math.MinInt, api.OK}, {math.MaxInt, math.MaxInt, math.MaxInt, api.OK},
		{5, 6, 9, api.ErrBig}, {5, 0, 4, api.ErrBig}, {-1, 0, 4, api.ErrBig}, {5, 9, 1, api.ErrBig}, {0, 1, -1, api.ErrBig},
		{math.MinInt, math.MinInt + 1, math.MaxInt, api.ErrBig}, {math.MaxInt, math.MinInt, math.MaxInt - 1, api.ErrBig},
	} {
		i := wire.Open(append(wire.Num(x.n), 3))
		n := i.Num(x.least, x.most)
		if i.Err() != x.want || x.want == api.OK && (n != x.n || i.Left() != 1) {
			t.Errorf("%d between %d and %d: %d, %d", x.n, x.least, x.most, n, i.Err())
		}
		if x.want != api.OK && (n != 0 || i.Left() != len(wire.Num(x.n))+1) {
			t.Errorf("%d beside error %d, %d left", n, i.Err(), i.Left())
		}
	}
}

// P3.1: texts: their most, their ends.
func TestStrBounds(t *testing.T) {
	for _, x := range []struct {
		s    string
		most int
		want string
		left int
		e    api.Errno
	}{
		{"\x04ab", 2, "ab", 0, api.OK}, {"\x04abc", 9, "ab", 1, api.OK}, {"\x00", 0, "", 0, api.OK}, {"\x00z", 0, "", 1, api.OK},
		{"\x04a\xff", math.MaxInt, "a\xff", 0, api.OK},
		{"\x04ab", 1, "", 3, api.ErrBig}, {"\x00", -1, "", 1, api.ErrBig}, {"\x01ab", 9, "", 3, api.ErrBig}, {"\x06ab", 2, "", 3, api.ErrBig},
		{"\x06ab", 9, "", 2, api.ErrTail}, {"\x02", 9, "", 0, api.ErrTail},
		{"\xfe\xff\xff\xff\xff\xff\xff\xff\xff\x01ab", math.MaxInt, "", 2, api.ErrTail},
		{"\xff\xff\xff\xff\xff\xff\xff\xff\xff\x01ab", math.MaxInt, "", 12, api.ErrBig},
		{"", 9, "", 0, api.ErrTail}, {"\x80\x00", 9, "", 2, api.ErrForm},
	} {
		i := open(x.s)
		if got := i.Str(x.most); got != x.want || i.Left() != x.left || i.Err() != x.e {
			t.Errorf("%x, at most %d: %q, %d left, %d", x.s, x.most, got, i.Left(), i.Err())
		}
	}
}

// P3.1: the first error stays, and nothing is read behind it.
func TestErrorStays(t *testing.T) {
	i := open("\x02\x04ab\x02\x02")
	if i.Num(0, 9) != 1 || i.Str(1) != "" || i.Err() != api.ErrBig || i.Left() != 5 {
		t.Fatalf("%d, %d left", i.Err(), i.Left())
	}
	i.Fail(api.ErrRot)
	if i.Num(0, 9) != 0 || i.Str(9) != "" || i.Err() != api.ErrBig || i.End() != api.ErrBig || i.Left() != 5 {
		t.Errorf("behind an error: %d, %d left", i.Err(), i.Left())
	}
	i = open("\x02\x02")
	i.Fail(api.OK)
	if i.Err() != api.OK || i.Num(0, 9) != 1 {
		t.Error("Fail(OK) is no error")
	}
	i.Fail(api.ErrRot)
	i.Fail(api.ErrMiss)
	if i.Err() != api.ErrRot || i.Num(0, 9) != 0 || i.Str(9) != "" || i.Left() != 1 || i.End() != api.ErrRot {
		t.Errorf("behind Fail: %d", i.Err())
	}
}

// P3.1: is it all?
func TestEnd(t *testing.T) {
	for _, b := range [][]byte{nil, {}} {
		if i := wire.Open(b); i.Left() != 0 || i.Err() != api.OK || i.End() != api.OK || i.Num(0, 1) != 0 || i.Err() != api.ErrTail || i.End() != api.ErrTail {
			t.Error("no bytes at all")
		}
	}
	i := open("\x02\x02")
	if i.Num(0, 9) != 1 || i.Err() != api.OK || i.End() != api.ErrForm || i.Err() != api.ErrForm || i.Left() != 1 {
		t.Errorf("bytes are left: %d", i.Err())
	}
	i.Fail(api.ErrRot)
	if i.Num(0, 9) != 0 || i.Str(9) != "" || i.End() != api.ErrForm || i.Left() != 1 {
		t.Errorf("End's error isn't remembered: %d", i.Err())
	}
	i = open("\x02")
	if i.Num(0, 9) != 1 || i.End() != api.OK || i.End() != api.OK || i.Err() != api.OK {
		t.Errorf("all was read: %d", i.Err())
	}
}

// P1, P3.1: a nil reader, and one that nobody opened.
func TestNilReader(t *testing.T) {
	var i *wire.In
	i.Fail(api.ErrRot)
	if i.Num(math.MinInt, math.MaxInt) != 0 || i.Str(9) != "" || i.Left() != 0 || i.Err() != api.ErrArg || i.End() != api.ErrArg {
		t.Error("a nil reader")
	}
	var in wire.In
	if in.Left() != 0 || in.End() != api.OK || in.Num(0, 9) != 0 || in.Err() != api.ErrTail {
		t.Error("a reader without bytes")
	}
}

// P3.3: what is handed in isn't kept or changed; answers are new memory.
func TestNothingShared(t *testing.T) {
	b := []byte("\x04ab\x02\x7f\x7f")
	before := bytes.Clone(b)
	i := wire.Open(b[:4])
	b[1], b[3] = 'z', 0x10
	if got := i.Str(9); got != "ab" {
		t.Errorf("the reader kept what was handed in: %q", got)
	}
	if got := i.Num(0, 9); got != 1 || i.End() != api.OK {
		t.Errorf("the reader kept what was handed in: %d", got)
	}
	b[1], b[3] = 'a', 2
	if !bytes.Equal(b, before) {
		t.Errorf("%x was changed to %x", before, b)
	}
	for _, n := range numbers() {
		x, y := wire.Num(n), wire.Num(n)
		x[0]++
		if !bytes.Equal(y, byRule(n)) || !bytes.Equal(wire.Num(n), byRule(n)) {
			t.Fatalf("Num(%d) is no new memory", n)
		}
	}
	x, y := wire.Str("ab"), wire.Str("ab")
	x[1]++
	if string(y) != "\x04ab" || string(wire.Str("ab")) != "\x04ab" {
		t.Error("Str is no new memory")
	}
}
