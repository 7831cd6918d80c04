package code_test

import (
	"bytes"
	"hash/crc32"
	"math"
	"slices"
	"strconv"
	"strings"
	"testing"

	"scriptor/api"
	"scriptor/code"
)

// closed: bytes with their sum, as RFC 3720 has it, behind them.
func closed(b ...byte) []byte {
	sum := crc32.Checksum(b, crc32.MakeTable(crc32.Castagnoli))
	return append(slices.Clone(b), byte(sum), byte(sum>>8), byte(sum>>16), byte(sum>>24))
}

// P16.1: the bytes of code, one by one.
func TestBytes(t *testing.T) {
	for _, c := range []struct {
		code code.Code
		want []byte
	}{
		{code.Code{Ins: steps("Halt"), Funs: []int{0}}, []byte{0x53, 0x43, 2, 56, 0, 0, 0, 2, 0, 0}},
		{code.Code{Ins: steps("Int -1, Halt"), Funs: []int{0}, Strs: []string{}}, []byte{0x53, 0x43, 4, 0, 1, 0, 56, 0, 0, 0, 2, 0, 0}},
		{
			code.Code{Ins: steps("Str 1, IsStr 0 2, Close 1 0, Int 64, Halt, Self, Ret"), Funs: []int{0, 5}, Strs: []string{"ab", ""}, Globals: 64},
			[]byte{0x53, 0x43, 14, 2, 2, 0, 42, 0, 4, 24, 2, 0, 0, 0x80, 1, 0, 56, 0, 0, 12, 0, 0, 28, 0, 0, 4, 4, 'a', 'b', 0, 4, 0, 10, 0x80, 1},
		},
	} {
		b, e := code.Encode(c.code)
		if e != api.OK || !bytes.Equal(b, closed(c.want...)) {
			t.Errorf("%d: % x, not % x", e, b, closed(c.want...))
		}
		got, e := code.Decode(closed(c.want...))
		if e != api.OK || !same(got, c.code) {
			t.Errorf("%d: %v", e, got)
		}
	}
}

// P16.1, P16.2: code comes back from its bytes; what isn't in order has none.
func TestBack(t *testing.T) {
	d := dice(162)
	for range 500 {
		c := d.inOrder()
		b, e := code.Encode(c)
		got, f := code.Decode(b)
		if e != api.OK || f != api.OK || !same(got, c) {
			t.Fatalf("%d, %d: %s", e, f, code.Text(c))
		}
	}
	most := code.Code{Ins: slices.Repeat(steps("Int -4611686018427387904, Pop"), 32768), Strs: slices.Repeat([]string{strings.Repeat("x", 4096)}, 64), Globals: 4096}
	most.Ins[65535] = code.Ins{Op: code.Halt}
	most.Funs = []int{0}
	// Numbers of steps that nobody comes to may be any.
	odd := code.Code{Ins: steps("Halt, Int 9223372036854775807, IsInt -9223372036854775808 9223372036854775807"), Funs: []int{0}}
	for _, c := range []code.Code{most, odd, several("Unit, Unit, Close 1 2, Halt | Free 1, Ret")} {
		b, e := code.Encode(c)
		got, f := code.Decode(b)
		if e != api.OK || f != api.OK || !same(got, c) {
			t.Errorf("%d, %d", e, f)
		}
	}
	for range 3000 {
		c := d.some()
		b, e := code.Encode(c)
		if e != code.Verify(c) || (e == api.OK) != (len(b) > 0) {
			t.Fatalf("%d: %d bytes", e, len(b))
		}
	}
	for _, c := range []code.Code{{}, several("Pop, Halt"), {Ins: steps("Halt"), Funs: []int{0}, Globals: -1}, {Ins: steps("Halt"), Funs: []int{1}}} {
		if b, e := code.Encode(c); e != api.ErrForm || b != nil {
			t.Errorf("%d: % x", e, b)
		}
	}
}

// P16.1: bytes whose sum isn't right.
func TestRot(t *testing.T) {
	b, _ := code.Encode(several("Str 0, Close 1 1, Halt | Free 0, Ret"))
	for i := range b {
		for bit := range 8 {
			x := slices.Clone(b)
			x[i] ^= 1 << bit
			if c, e := code.Decode(x); e != api.ErrRot || !same(c, code.Code{}) {
				t.Errorf("byte %d: %d", i, e)
			}
		}
	}
	for n := range len(b) {
		if _, e := code.Decode(b[:n]); e != api.ErrRot && n > 0 {
			t.Errorf("%d bytes: %d", n, e)
		}
	}
	for _, x := range [][]byte{nil, {0}, {0x53, 0x43}, {1, 2, 3, 4}, append(slices.Clone(b), 0), bytes.Repeat([]byte{255}, 100)} {
		if _, e := code.Decode(x); e != api.ErrRot {
			t.Errorf("% x: %d", x, e)
		}
	}
}

// P16.1: bytes with their sum, that are no code's.
func TestNoCode(t *testing.T) {
	for _, c := range []struct {
		name string
		b    []byte
	}{
		{"nothing", nil},
		{"no mark", []byte{0x53}}, {"no mark", []byte{2, 56, 0, 0, 0, 2, 0, 0}}, {"another mark", []byte{0x54, 0x43, 2, 56, 0, 0, 0, 2, 0, 0}}, {"another mark", []byte{0x53, 0x44, 2, 56, 0, 0, 0, 2, 0, 0}},
		{"no steps", []byte{0x53, 0x43, 0, 0, 2, 0, 0}}, {"-1 steps", []byte{0x53, 0x43, 1, 0, 2, 0, 0}}, {"no functions", []byte{0x53, 0x43, 2, 56, 0, 0, 0, 0, 0}},
		{"-1 texts", []byte{0x53, 0x43, 2, 56, 0, 0, 1, 2, 0, 0}}, {"-1 globals", []byte{0x53, 0x43, 2, 56, 0, 0, 0, 2, 0, 1}},
		{"something behind it", []byte{0x53, 0x43, 2, 56, 0, 0, 0, 2, 0, 0, 0}},
		{"a long number", []byte{0x53, 0x43, 0x82, 0, 56, 0, 0, 0, 2, 0, 0}}, {"a long number", []byte{0x53, 0x43, 2, 56, 0x80, 0, 0, 0, 2, 0, 0}}, {"a long number", []byte{0x53, 0x43, 2, 56, 0, 0, 0, 2, 0x80, 0, 0}},
		{"a function beyond", []byte{0x53, 0x43, 2, 56, 0, 0, 0, 2, 2, 0}}, {"a function ahead", []byte{0x53, 0x43, 2, 56, 0, 0, 0, 2, 1, 0}},
		{"Op 29", []byte{0x53, 0x43, 2, 58, 0, 0, 0, 2, 0, 0}}, {"Op -1", []byte{0x53, 0x43, 2, 1, 0, 0, 0, 2, 0, 0}}, {"Pop", []byte{0x53, 0x43, 4, 34, 0, 0, 56, 0, 0, 0, 2, 0, 0}}, {"Halt 1", []byte{0x53, 0x43, 2, 56, 2, 0, 0, 2, 0, 0}},
		{"many steps", []byte{0x53, 0x43, 0x80, 0x80, 0x80, 0x80, 0x80, 0x80, 0x80, 0x80, 0x40}}, {"65537 steps", append([]byte{0x53, 0x43, 0x82, 0x80, 8}, bytes.Repeat([]byte{56, 0, 0}, 65537)...)},
		{"many texts", []byte{0x53, 0x43, 2, 56, 0, 0, 0xFE, 0xFF, 0xFF, 0xFF, 0xFF, 0xFF, 0xFF, 0x7F, 0}}, {"4097 globals", []byte{0x53, 0x43, 2, 56, 0, 0, 0, 2, 0, 0x82, 0x40}},
		{"a text of 4097 bytes", append(append([]byte{0x53, 0x43, 2, 56, 0, 0, 2, 0x82, 0x40}, make([]byte, 4097)...), 2, 0, 0)},
		{"a text that ends", []byte{0x53, 0x43, 2, 56, 0, 0, 2, 20, 'a', 2, 0, 0}},
	} {
		if got, e := code.Decode(closed(c.b...)); e != api.ErrForm || !same(got, code.Code{}) {
			t.Errorf("%s: %d", c.name, e)
		}
	}
	// Bytes that break off, with the sum of what is left, and bytes of which one is another one.
	b, _ := code.Encode(several("Str 0, Close 1 1, IsInt 1 3, Halt | Free 0, Ret"))
	b = b[:len(b)-4]
	for n := range b {
		if _, e := code.Decode(closed(b[:n]...)); e != api.ErrForm {
			t.Errorf("%d bytes: %d", n, e)
		}
	}
	for n := range b {
		for c := range 256 {
			x := slices.Clone(b)
			x[n] = byte(c)
			got, e := code.Decode(closed(x...))
			if e != api.OK && e != api.ErrForm {
				t.Errorf("byte %d: %d", n, e)
			}
			if again, _ := code.Encode(got); e == api.OK && !bytes.Equal(again, closed(x...)) {
				t.Errorf("byte %d is read as other bytes' code", n)
			}
		}
	}
}

// P16.1 (P1): the decoder answers for all bytes.
func TestAnyBytes(t *testing.T) {
	d := dice(99)
	for range 20000 {
		b := []byte{0x53, 0x43, byte(2 * d.below(4))}
		for range d.below(40) {
			b = append(b, byte(d.below([]int{4, 60, 256}[d.below(3)])))
		}
		if c, e := code.Decode(closed(b...)); e == api.OK {
			if again, f := code.Encode(c); f != api.OK || !bytes.Equal(again, closed(b...)) {
				t.Fatalf("% x: %d", b, f)
			}
		} else if e != api.ErrForm {
			t.Fatalf("% x: %d", b, e)
		}
	}
}

// P16.1: code as people read it, of each step a line.
func TestText(t *testing.T) {
	c := several("Int -5, Str 0, Float 1, Unit, Local 3, Global 2, Set 1, Prim 39, Con 255 2, Tup 2, Close 1 2, Apply, Jump 13, Unless 14, Pop, Slide 0, Field 7, IsInt -9223372036854775808 18, IsStr 1 19, IsCon 2 20, Try 22, EndTry, Begin, Commit, Raise, Halt | Free 0, Self, Ret")
	want := "0 Int -5\n1 Str 0\n2 Float 1\n3 Unit\n4 Local 3\n5 Global 2\n6 Set 1\n7 Prim 39\n8 Con 255 2\n9 Tup 2\n10 Close 1 2\n11 Apply\n12 Jump 13\n13 Unless 14\n14 Pop\n15 Slide 0\n16 Field 7\n" +
		"17 IsInt -9223372036854775808 18\n18 IsStr 1 19\n19 IsCon 2 20\n20 Try 22\n21 EndTry\n22 Begin\n23 Commit\n24 Raise\n25 Halt\n26 Free 0\n27 Self\n28 Ret\n"
	if got := code.Text(c); got != want {
		t.Errorf("%s", got)
	}
	for _, x := range []code.Code{{}, {Funs: []int{0}, Strs: []string{"a"}}} {
		if got := code.Text(x); got != "" {
			t.Errorf("%q", got)
		}
	}
	// Whatever it is, it is told.
	for _, n := range []int{-1, 29, math.MaxInt, math.MinInt} {
		if got := code.Text(code.Code{Ins: []code.Ins{{Op: n, A: n, B: n}, {Op: code.Halt}}}); !strings.HasPrefix(got, "0 ") || !strings.HasSuffix(got, "\n1 Halt\n") {
			t.Errorf("%q", got)
		}
	}
	if got := code.Text(code.Code{Ins: slices.Repeat(steps("Unit"), 70000)}); !strings.HasSuffix(got, "\n69999 Unit\n") {
		t.Error(len(got))
	}
	for i, name := range names {
		name, numbers, _ := strings.Cut(name, ":")
		want := "0 " + name + strings.Repeat(" "+strconv.Itoa(7), len(numbers)) + "\n"
		if got := code.Text(code.Code{Ins: []code.Ins{{Op: i, A: 7, B: 7}}}); got != want {
			t.Errorf("%q, not %q", got, want)
		}
	}
}

// P16.3: what is handed in stays as it is, and isn't kept; answers are new memory.
func TestMemory(t *testing.T) {
	c := several("Str 0, Close 1 1, Try 4, EndTry, Unit, Raise | Free 0, Ret")
	c.Ins = append(make([]code.Ins, 0, 50), c.Ins...)
	c.Funs = append(make([]int, 0, 50), c.Funs...)
	c.Strs = append(make([]string, 0, 50), c.Strs...)
	was := copied(c)
	code.Verify(c)
	code.Text(c)
	c.Ins[4] = code.Ins{Op: code.Halt}
	was.Ins[4] = c.Ins[4]
	c.Ins[2], was.Ins[2] = code.Ins{Op: code.Begin}, code.Ins{Op: code.Begin}
	c.Ins[3], was.Ins[3] = code.Ins{Op: code.Commit}, code.Ins{Op: code.Commit}
	if e := code.Verify(c); e != api.OK {
		t.Fatal(e)
	}
	b, e := code.Encode(c)
	if e != api.OK || !same(c, was) || c.Ins[:50][len(c.Ins)] != (code.Ins{}) || c.Funs[:50][len(c.Funs)] != 0 || c.Strs[:50][len(c.Strs)] != "" {
		t.Errorf("%d: %v", e, c)
	}
	again, _ := code.Encode(c)
	first := slices.Clone(b)
	for i := range b {
		b[i] = 0
	}
	if !bytes.Equal(again, first) {
		t.Error("two answers are one")
	}
	in := append(make([]byte, 0, len(first)+9), first...)
	got, e := code.Decode(in)
	if e != api.OK || !bytes.Equal(in, first) || in[:len(in)+1][len(in)] != 0 {
		t.Error("the bytes were changed", e)
	}
	for i := range in {
		in[i] = 'z'
	}
	if !same(got, was) {
		t.Errorf("the code keeps its bytes: %v", got)
	}
	other, _ := code.Decode(first)
	for i := range got.Ins {
		got.Ins[i] = code.Ins{}
	}
	got.Strs[0], got.Funs[0] = "", 9
	if !same(other, was) {
		t.Error("two answers are one")
	}
}
