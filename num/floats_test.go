package num_test

import (
	"math"
	"strconv"
	"strings"
	"testing"

	"scriptor/api"
	"scriptor/num"
)

// Floats by their bits.
const (
	plusInf   num.Float = 0x7FF0000000000000
	minusInf  num.Float = 0xFFF0000000000000
	zero      num.Float = 0
	minusZero num.Float = 0x8000000000000000
	tiny      num.Float = 1 // the least above 0
	huge      num.Float = 0x7FEFFFFFFFFFFFFF
	one       num.Float = 0x3FF0000000000000
)

// otherNans are what nobody should make, but can.
var otherNans = []num.Float{
	0x7FF8000000000001, 0xFFF8000000000000, 0xFFFFFFFFFFFFFFFF, 0x7FFFFFFFFFFFFFFF, 0x7FF0000000000001, 0xFFF0000000000001,
}

// rising are floats, each ahead of those behind it.
func rising() []num.Float {
	list := []num.Float{num.Nan, minusInf, huge.Neg()}
	for _, f := range []float64{-1e300, -4611686018427387904, -2.5, -1, -0.5, -1e-300} {
		list = append(list, num.Of(f))
	}
	list = append(list, 0x8010000000000000, 0x800FFFFFFFFFFFFF, tiny.Neg(), minusZero, zero, tiny, 0x000FFFFFFFFFFFFF, 0x0010000000000000)
	for _, f := range []float64{1e-300, 0.5, 1, 2.5, 4611686018427387904, 1e300} {
		list = append(list, num.Of(f))
	}
	return append(list, huge, plusInf)
}

// allFloats are those, the other NaNs, and bits from here and there.
func allFloats() []num.Float {
	list := append(rising(), otherNans...)
	u := uint64(1)
	for range 60 {
		u += 0x9E3779B97F4A7C15
		list = append(list, num.Float(u))
	}
	return list
}

func isNan(x num.Float) bool { return math.IsNaN(x.Go()) }

// oneNan: is x f, with Nan for each NaN?
func oneNan(x num.Float, f float64) bool {
	if math.IsNaN(f) {
		return x == num.Nan
	}
	return x == num.Float(math.Float64bits(f))
}

// P1.1: of and as a float64.
func TestOfAndGo(t *testing.T) {
	for _, x := range allFloats() {
		f := x.Go()
		if isNan(x) {
			if num.Of(f) != num.Nan {
				t.Errorf("Of a NaN is %s", num.Of(f).Bits())
			}
		} else if math.Float64bits(f) != uint64(x) || num.Of(f) != x {
			t.Errorf("%s comes back as %s", x.Bits(), num.Of(f).Bits())
		}
	}
	for _, x := range append(otherNans, num.Nan) {
		if !math.IsNaN(x.Go()) {
			t.Errorf("Go of %s is no NaN", x.Bits())
		}
	}
	if num.Of(0) != zero || num.Of(math.Copysign(0, -1)) != minusZero || num.Of(math.Inf(-1)) != minusInf || num.Nan != 0x7FF8000000000000 {
		t.Error("noughts, infinities, Nan")
	}
}

// P1.1: what two floats make, of all pairs; no other NaN than Nan ever.
func TestFloatPairs(t *testing.T) {
	for _, x := range allFloats() {
		for _, y := range allFloats() {
			f, g := x.Go(), y.Go()
			if !oneNan(x.Plus(y), f+g) || !oneNan(x.Minus(y), f-g) || !oneNan(x.Times(y), f*g) || !oneNan(x.Over(y), f/g) {
				t.Fatalf("%s and %s", x.Bits(), y.Bits())
			}
			if x.Less(y) != (f < g) || x.Same(y) != (f == g) {
				t.Fatalf("%s held against %s", x.Bits(), y.Bits())
			}
		}
		if !oneNan(x.Root(), math.Sqrt(x.Go())) {
			t.Errorf("root of %s: %s", x.Bits(), x.Root().Bits())
		}
		if isNan(x) && x.Neg() != num.Nan || !isNan(x) && x.Neg() != x^minusZero {
			t.Errorf("Neg of %s: %s", x.Bits(), x.Neg().Bits())
		}
	}
}

// P1.1: answers that IEEE 754 says, bit by bit: roundings, ties, noughts, infinities, none.
func TestFloatAnswers(t *testing.T) {
	of, even := num.Of, num.Of(1<<53)
	for _, x := range []struct {
		what      string
		got, want num.Float
	}{
		{"0.1 + 0.2", of(0.1).Plus(of(0.2)), 0x3FD3333333333334},
		{"2^53 + 1", even.Plus(one), even},
		{"2^53+2 + 1", even.Plus(of(2)).Plus(one), 0x4340000000000002},
		{"huge + huge", huge.Plus(huge), plusInf},
		{"inf + -inf", plusInf.Plus(minusInf), num.Nan},
		{"0 + -0", zero.Plus(minusZero), zero},
		{"-0 + -0", minusZero.Plus(minusZero), minusZero},
		{"1 - 1", one.Minus(one), zero},
		{"-0 - 0", minusZero.Minus(zero), minusZero},
		{"inf - inf", plusInf.Minus(plusInf), num.Nan},
		{"0.1 * 3", of(0.1).Times(of(3)), 0x3FD3333333333334},
		{"tiny * 0.5", tiny.Times(of(0.5)), zero},
		{"-tiny * 0.5", tiny.Neg().Times(of(0.5)), minusZero},
		{"3 tiny * 0.5", num.Float(3).Times(of(0.5)), 2},
		{"0 * inf", zero.Times(plusInf), num.Nan},
		{"0 * -1", zero.Times(of(-1)), minusZero},
		{"1 / 3", one.Over(of(3)), 0x3FD5555555555555},
		{"1 / 0", one.Over(zero), plusInf},
		{"1 / -0", one.Over(minusZero), minusInf},
		{"0 / 0", zero.Over(zero), num.Nan},
		{"inf / inf", plusInf.Over(plusInf), num.Nan},
		{"1 / -inf", one.Over(minusInf), minusZero},
		{"root 2", of(2).Root(), 0x3FF6A09E667F3BCD},
		{"root 0", zero.Root(), zero},
		{"root -0", minusZero.Root(), minusZero},
		{"root inf", plusInf.Root(), plusInf},
		{"root -1", of(-1).Root(), num.Nan},
		{"root -inf", minusInf.Root(), num.Nan},
		{"neg 0", zero.Neg(), minusZero},
		{"neg -0", minusZero.Neg(), zero},
		{"neg inf", plusInf.Neg(), minusInf},
		{"neg nan", num.Nan.Neg(), num.Nan},
	} {
		if x.got != x.want {
			t.Errorf("%s: %s, not %s", x.what, x.got.Bits(), x.want.Bits())
		}
	}
}

// P1.1: Less and Same as IEEE compares; Ahead, an order of all.
func TestOrders(t *testing.T) {
	list := rising()
	for i, x := range list {
		for j, y := range list {
			if x.Ahead(y) != (i < j) {
				t.Errorf("%s ahead of %s: %v", x.Bits(), y.Bits(), x.Ahead(y))
			}
			noughts := x&^minusZero == 0 && y&^minusZero == 0
			numbers := x != num.Nan && y != num.Nan
			if x.Less(y) != (numbers && i < j && !noughts) || x.Same(y) != (numbers && (i == j || noughts)) {
				t.Errorf("%s against %s: %v, %v", x.Bits(), y.Bits(), x.Less(y), x.Same(y))
			}
		}
	}
	for _, x := range otherNans {
		if x.Ahead(num.Nan) || num.Nan.Ahead(x) || !x.Ahead(minusInf) || minusInf.Ahead(x) || x.Ahead(x) {
			t.Errorf("%s doesn't stand where Nan does", x.Bits())
		}
		if x.Same(x) || x.Less(one) || one.Less(x) {
			t.Errorf("%s compares", x.Bits())
		}
	}
}

// P1.1: floats as integers.
func TestWhole(t *testing.T) {
	for _, x := range []struct {
		f float64
		n int
		e api.Errno
	}{
		{0, 0, api.OK}, {math.Copysign(0, -1), 0, api.OK}, {0.5, 0, api.OK}, {-0.5, 0, api.OK}, {5e-324, 0, api.OK},
		{2.9, 2, api.OK}, {-2.9, -2, api.OK}, {1e15, 1000000000000000, api.OK},
		{4611686018427387392, 4611686018427387392, api.OK}, {-4611686018427387392, -4611686018427387392, api.OK},
		{-4611686018427387904, num.Least, api.OK},
		{4611686018427387904, 0, api.ErrArg}, {-4611686018427388928, 0, api.ErrArg},
		{1e300, 0, api.ErrArg}, {-1e300, 0, api.ErrArg}, {9223372036854775808, 0, api.ErrArg},
		{math.Inf(1), 0, api.ErrArg}, {math.Inf(-1), 0, api.ErrArg}, {math.NaN(), 0, api.ErrArg},
	} {
		if n, e := num.Of(x.f).Whole(); n != x.n || e != x.e {
			t.Errorf("Whole of %g: %d, %d", x.f, n, e)
		}
	}
	for _, x := range otherNans {
		if n, e := x.Whole(); n != 0 || e != api.ErrArg {
			t.Errorf("Whole of %s: %d, %d", x.Bits(), n, e)
		}
	}
}

// P1.1: integers as floats, to the nearest, ties to even, of what is wrapped.
func TestOfInt(t *testing.T) {
	for _, x := range []struct {
		n    int
		want num.Float
	}{
		{0, zero}, {1, one}, {-1, one.Neg()}, {1 << 53, 0x4340000000000000},
		{1<<53 + 1, 0x4340000000000000}, {1<<53 + 2, 0x4340000000000001}, {1<<53 + 3, 0x4340000000000002},
		{-1<<53 - 1, 0xC340000000000000}, {-1<<53 - 3, 0xC340000000000002},
		{num.Most, 0x43D0000000000000}, {num.Least, 0xC3D0000000000000}, {num.Most - 255, 0x43D0000000000000}, {num.Most - 256, 0x43CFFFFFFFFFFFFF},
		{num.Most + 1, 0xC3D0000000000000}, {math.MaxInt, one.Neg()}, {math.MinInt, zero},
	} {
		if got := num.OfInt(x.n); got != x.want {
			t.Errorf("OfInt(%d) = %s, not %s", x.n, got.Bits(), x.want.Bits())
		}
	}
	for _, n := range wholes() {
		want, err := strconv.ParseFloat(num.Text(n), 64)
		if got := num.OfInt(n); got.Go() != want || err != nil {
			t.Errorf("OfInt(%d) = %s", n, got.Bits())
		}
	}
}

// P1.1: texts that are floats: the nearest.
func TestReadFloat(t *testing.T) {
	for s, want := range map[string]string{
		"0.1": "3fb999999999999a", "1.0": "3ff0000000000000", "-1.5": "bff8000000000000", "001.50": "3ff8000000000000",
		"0.0": "0000000000000000", "-0.0": "8000000000000000", "-00000.0000000000": "8000000000000000",
		"99999999999999.9": "42d6bcc41e8ffffa", "0.00000000000001": "3d06849b86a12b9b", "3.14159265358979": "400921fb54442d11",
	} {
		if x, e := num.ReadFloat(s); x.Bits() != want || e != api.OK {
			t.Errorf("ReadFloat(%q) = %s, %d, not %s", s, x.Bits(), e, want)
		}
	}
	u := uint64(1)
	for range 3000 {
		u += 0x9E3779B97F4A7C15
		digits := strconv.FormatUint(u%1000000000000000, 10)
		for point := 1; point < len(digits); point += 3 {
			s := digits[:point] + "." + digits[point:]
			want, _ := strconv.ParseFloat(s, 64)
			x, e := num.ReadFloat(s)
			y, f := num.ReadFloat("-" + s)
			if x != num.Of(want) || y != num.Of(-want) || e != api.OK || f != api.OK {
				t.Fatalf("ReadFloat(%q) = %s", s, x.Bits())
			}
		}
	}
}

// P1.1: texts that are no floats, and those of more than 15 digits.
func TestReadFloatRefuses(t *testing.T) {
	for s, want := range map[string]api.Errno{
		"": api.ErrForm, "-": api.ErrForm, ".": api.ErrForm, "-.": api.ErrForm, "1": api.ErrForm, "-1": api.ErrForm,
		"1.": api.ErrForm, ".5": api.ErrForm, "-.5": api.ErrForm, "+1.0": api.ErrForm, "--1.0": api.ErrForm, "1.-0": api.ErrForm,
		"1.0-": api.ErrForm, "1.0.0": api.ErrForm, "1..0": api.ErrForm, "1,0": api.ErrForm, " 1.0": api.ErrForm, "1.0 ": api.ErrForm,
		"1.0e5": api.ErrForm, "1e5": api.ErrForm, "0x1.8": api.ErrForm, "1_0.0": api.ErrForm, "1.0\x00": api.ErrForm,
		"\u0661.\u0661": api.ErrForm, "nan": api.ErrForm, "inf": api.ErrForm, "-inf": api.ErrForm, "Infinity": api.ErrForm,
		"1234567890123456": api.ErrForm, "1234567890123456.": api.ErrForm, ".1234567890123456": api.ErrForm,
		"123456789.0123456x": api.ErrForm, strings.Repeat("1", 500) + ".1 ": api.ErrForm,
		"12345678.12345678": api.ErrBig, "1.000000000000000": api.ErrBig, "000000000000000.0": api.ErrBig,
		"-0.000000000000000": api.ErrBig, "1." + strings.Repeat("0", 500): api.ErrBig, strings.Repeat("9", 500) + ".5": api.ErrBig,
		"1.00000000000000": api.OK, "00000000000000.0": api.OK, "-12345678.1234567": api.OK,
	} {
		if x, e := num.ReadFloat(s); e != want || e != api.OK && x != 0 {
			t.Errorf("ReadFloat(%q) = %s, %d, not %d", s, x.Bits(), e, want)
		}
	}
}

// P1.1: a float's bits as they are, of other NaNs, too.
func TestBits(t *testing.T) {
	for x, want := range map[num.Float]string{
		zero: "0000000000000000", minusZero: "8000000000000000", num.Nan: "7ff8000000000000", tiny: "0000000000000001",
		0x0123456789ABCDEF: "0123456789abcdef", 0xFEDCBA9876543210: "fedcba9876543210",
		0xFFFFFFFFFFFFFFFF: "ffffffffffffffff", 0x7FF0000000000001: "7ff0000000000001",
	} {
		if got := x.Bits(); got != want {
			t.Errorf("Bits of %x: %s", uint64(x), got)
		}
	}
	for _, x := range allFloats() {
		u, err := strconv.ParseUint(x.Bits(), 16, 64)
		if len(x.Bits()) != 16 || num.Float(u) != x || err != nil {
			t.Errorf("Bits of %x: %s", uint64(x), x.Bits())
		}
	}
}
