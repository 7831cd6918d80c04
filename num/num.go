// Package num is layer 1: the language's numbers: see shared/doc/01-num.md.
package num

import (
	"math"
	"strconv"
	"strings"

	"scriptor/api"
)

// The least and the greatest integer.
const (
	Least = -1 << 62
	Most  = 1<<62 - 1
)

// Wrap: a whole number as an integer.
func Wrap(n int) int {
	// Bit 62 is an integer's sign: the way back draws it into bit 63.
	return n << 1 >> 1
}

// Add, Sub, Mul, Div, Rem: what integers make.
//
// Sums, differences and products of 64 bits are right but for a multiple of 2^64, so for one of
// 2^63, too: to wrap the answer is enough. Quotients aren't: Div and Rem wrap ahead.
func Add(a, b int) int { return Wrap(a + b) }

func Sub(a, b int) int { return Wrap(a - b) }

func Mul(a, b int) int { return Wrap(a * b) }

func Div(a, b int) (int, api.Errno) {
	a, b = Wrap(a), Wrap(b)
	if b == 0 {
		return 0, api.ErrArg
	}
	return Wrap(a / b), api.OK
}

func Rem(a, b int) (int, api.Errno) {
	a, b = Wrap(a), Wrap(b)
	if b == 0 {
		return 0, api.ErrArg
	}
	return a % b, api.OK
}

// Read, Text: an integer's digits.
func Read(s string) (int, api.Errno) {
	digits, minus := strings.CutPrefix(s, "-")
	if !isDigits(digits) {
		return 0, api.ErrForm
	}
	// Counted downwards: Least has no counterpart above 0.
	n := 0
	for i := range len(digits) {
		d := int(digits[i] - '0')
		if n < (Least+d)/10 {
			return 0, api.ErrBig
		}
		n = n*10 - d
	}
	if minus {
		return n, api.OK
	}
	if n == Least {
		return 0, api.ErrBig
	}
	return -n, api.OK
}

func Text(n int) string { return strconv.Itoa(Wrap(n)) }

// isDigits: digits 0 to 9 alone, at least one.
func isDigits(s string) bool {
	for i := range len(s) {
		if s[i] < '0' || s[i] > '9' {
			return false
		}
	}
	return s != ""
}

// Float is a float, as its bits.
type Float uint64

// Nan is the one that is none.
const Nan Float = 0x7FF8000000000000

// sign is the bit by which a float and its negative differ.
const sign Float = 1 << 63

// Of: a float of the machine.
func Of(f float64) Float {
	if math.IsNaN(f) {
		return Nan
	}
	return Float(math.Float64bits(f))
}

// Go: as the machine has it.
func (x Float) Go() float64 { return math.Float64frombits(uint64(x)) }

// isNan: is it Nan, or another NaN, that somebody made of bits?
func (x Float) isNan() bool { return math.IsNaN(x.Go()) }

// Plus, Minus, Times, Over, Root, Neg: what floats make.
func (x Float) Plus(y Float) Float { return Of(x.Go() + y.Go()) }

func (x Float) Minus(y Float) Float { return Of(x.Go() - y.Go()) }

func (x Float) Times(y Float) Float { return Of(x.Go() * y.Go()) }

func (x Float) Over(y Float) Float { return Of(x.Go() / y.Go()) }

func (x Float) Root() Float { return Of(math.Sqrt(x.Go())) }

func (x Float) Neg() Float {
	if x.isNan() {
		return Nan
	}
	return x ^ sign
}

// Less, Same: as numbers are; Ahead: an order of all.
func (x Float) Less(y Float) bool { return x.Go() < y.Go() }

func (x Float) Same(y Float) bool { return x.Go() == y.Go() }

func (x Float) Ahead(y Float) bool { return x.rank() < y.rank() }

// rank: a number that rises in the order of Ahead.
func (x Float) rank() uint64 {
	switch {
	case x.isNan():
		return 0
	case x&sign != 0:
		// Below 0 greater bits are a lesser number. Minus infinity's rank is above 0 still.
		return uint64(^x)
	default:
		return uint64(x | sign)
	}
}

// Whole: the integer of a float, without what is behind the point; Float of an integer.
func (x Float) Whole() (int, api.Errno) {
	f := x.Go()
	// -Least, not Most: that isn't a float. Asked for what is right, as every comparison with a NaN is false.
	if f >= Least && f < -Least {
		return int(f), api.OK
	}
	return 0, api.ErrArg
}

func OfInt(n int) Float { return Of(float64(Wrap(n))) }

// maxDigits is how many digits ReadFloat takes.
const maxDigits = 15

// ReadFloat: of digits with a point; Bits: sixteen digits of its bits.
func ReadFloat(s string) (Float, api.Errno) {
	digits, minus := strings.CutPrefix(s, "-")
	whole, part, _ := strings.Cut(digits, ".")
	if !isDigits(whole) || !isDigits(part) {
		return 0, api.ErrForm
	}
	if len(whole)+len(part) > maxDigits {
		return 0, api.ErrBig
	}
	n, tens := 0, 1
	for i := range len(whole) {
		n = n*10 + int(whole[i]-'0')
	}
	for i := range len(part) {
		n = n*10 + int(part[i]-'0')
		tens *= 10
	}
	// Both are below 2^53, so they are floats without rounding; only their quotient is rounded.
	x := OfInt(n).Over(OfInt(tens))
	if minus {
		// Here, not in n: of noughts the minus would be lost.
		return x.Neg(), api.OK
	}
	return x, api.OK
}

func (x Float) Bits() string {
	const hex = "0123456789abcdef"
	b := make([]byte, 16)
	for i := range b {
		b[len(b)-1-i] = hex[x&15]
		x >>= 4
	}
	return string(b)
}
