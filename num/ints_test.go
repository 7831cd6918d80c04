package num_test

import (
	"math"
	"math/big"
	"strings"
	"testing"

	"scriptor/api"
	"scriptor/num"
)

// wholes are whole numbers of 64 bits: around each power of two, on both sides of 0, and others between.
func wholes() []int {
	list := []int{0, 3, 5, 7, 10, 1000003, math.MinInt, math.MaxInt}
	for shift := range 64 {
		power := 1 << shift
		list = append(list, power-1, power, power+1, -power-1, -power, -power+1)
	}
	u := uint64(1)
	for range 60 {
		u += 0x9E3779B97F4A7C15
		list = append(list, int(u))
	}
	return list
}

// wrapped is Wrap as the document says it, of a number of any size.
func wrapped(n *big.Int) int {
	round := new(big.Int).Lsh(big.NewInt(1), 63)
	rest := new(big.Int).Mod(n, round)
	if rest.Cmp(big.NewInt(num.Most)) > 0 {
		rest.Sub(rest, round)
	}
	return int(rest.Int64())
}

func wide(n int) *big.Int { return big.NewInt(int64(n)) }

// P1.1: what goes round.
func TestWrap(t *testing.T) {
	for n, want := range map[int]int{
		0: 0, -1: -1, num.Most: num.Most, num.Least: num.Least,
		num.Most + 1: num.Least, num.Least - 1: num.Most,
		math.MaxInt: -1, math.MinInt: 0, math.MinInt + 1: 1,
	} {
		if got := num.Wrap(n); got != want {
			t.Errorf("Wrap(%d) = %d, not %d", n, got, want)
		}
	}
	for _, n := range wholes() {
		if got := num.Wrap(n); got != wrapped(wide(n)) {
			t.Errorf("Wrap(%d) = %d, not %d", n, got, wrapped(wide(n)))
		}
	}
}

// P1.1: sums, differences, products of any whole numbers of 64 bits.
func TestSumsAndProducts(t *testing.T) {
	calls := []struct {
		name string
		call func(a, b int) int
		rule func(z, a, b *big.Int) *big.Int
	}{
		{"Add", num.Add, (*big.Int).Add},
		{"Sub", num.Sub, (*big.Int).Sub},
		{"Mul", num.Mul, (*big.Int).Mul},
	}
	for _, c := range calls {
		for _, a := range wholes() {
			for _, b := range wholes() {
				want := wrapped(c.rule(new(big.Int), wide(num.Wrap(a)), wide(num.Wrap(b))))
				if got := c.call(a, b); got != want {
					t.Fatalf("%s(%d, %d) = %d, not %d", c.name, a, b, got, want)
				}
			}
		}
	}
	if num.Add(num.Most, 1) != num.Least || num.Sub(num.Least, 1) != num.Most || num.Mul(num.Least, -1) != num.Least {
		t.Error("Least and Most don't follow one another")
	}
}

// P1.1: quotients towards 0, and what is left; by 0.
func TestQuotients(t *testing.T) {
	for _, a := range wholes() {
		for _, b := range wholes() {
			q, e := num.Div(a, b)
			r, f := num.Rem(a, b)
			x, y := wide(num.Wrap(a)), wide(num.Wrap(b))
			if y.Sign() == 0 {
				if q != 0 || r != 0 || e != api.ErrArg || f != api.ErrArg {
					t.Fatalf("by 0: Div(%d, %d) = %d, %d, Rem = %d, %d", a, b, q, e, r, f)
				}
				continue
			}
			quotient, rest := new(big.Int).QuoRem(x, y, new(big.Int))
			if q != wrapped(quotient) || e != api.OK {
				t.Fatalf("Div(%d, %d) = %d, %d, not %v", a, b, q, e, quotient)
			}
			if r != wrapped(rest) || f != api.OK || r != num.Sub(a, num.Mul(q, b)) {
				t.Fatalf("Rem(%d, %d) = %d, %d, not %v", a, b, r, f, rest)
			}
		}
	}
}

// P1.1: a quotient that goes round, and a divisor that is 0 only when it is wrapped.
func TestQuotientEdges(t *testing.T) {
	for _, x := range []struct {
		a, b, q, r int
		e          api.Errno
	}{
		{7, 2, 3, 1, api.OK}, {-7, 2, -3, -1, api.OK}, {7, -2, -3, 1, api.OK}, {-7, -2, 3, -1, api.OK},
		{num.Least, -1, num.Least, 0, api.OK}, {num.Most + 1, -1, num.Least, 0, api.OK},
		{math.MaxInt, 1, -1, 0, api.OK}, {math.MinInt, 5, 0, 0, api.OK},
		{5, 0, 0, 0, api.ErrArg}, {0, 0, 0, 0, api.ErrArg}, {5, math.MinInt, 0, 0, api.ErrArg},
	} {
		if q, e := num.Div(x.a, x.b); q != x.q || e != x.e {
			t.Errorf("Div(%d, %d) = %d, %d", x.a, x.b, q, e)
		}
		if r, e := num.Rem(x.a, x.b); r != x.r || e != x.e {
			t.Errorf("Rem(%d, %d) = %d, %d", x.a, x.b, r, e)
		}
	}
}

// P1.1: texts that are integers, and texts that aren't.
func TestRead(t *testing.T) {
	for _, x := range []struct {
		s string
		n int
		e api.Errno
	}{
		{"0", 0, api.OK}, {"-0", 0, api.OK}, {"12", 12, api.OK}, {"-12", -12, api.OK}, {"0098", 98, api.OK},
		{"4611686018427387903", num.Most, api.OK}, {"-4611686018427387903", -num.Most, api.OK},
		{"-4611686018427387904", num.Least, api.OK},
		{strings.Repeat("0", 300) + "4611686018427387903", num.Most, api.OK},
		{"4611686018427387904", 0, api.ErrBig}, {"-4611686018427387905", 0, api.ErrBig},
		{"4611686018427387910", 0, api.ErrBig}, {"-4611686018427387910", 0, api.ErrBig},
		{"9223372036854775807", 0, api.ErrBig}, {"9223372036854775808", 0, api.ErrBig},
		{"18446744073709551616", 0, api.ErrBig}, {"-18446744073709551617", 0, api.ErrBig},
		{strings.Repeat("9", 300), 0, api.ErrBig},
		{"", 0, api.ErrForm}, {"-", 0, api.ErrForm}, {"--1", 0, api.ErrForm}, {"+1", 0, api.ErrForm},
		{"1-", 0, api.ErrForm}, {" 1", 0, api.ErrForm}, {"1 ", 0, api.ErrForm}, {"1\n", 0, api.ErrForm},
		{"1_0", 0, api.ErrForm}, {"0x1", 0, api.ErrForm}, {"1.0", 0, api.ErrForm}, {"1e3", 0, api.ErrForm},
		{"\u0661", 0, api.ErrForm}, {"1\x00", 0, api.ErrForm}, {"/", 0, api.ErrForm}, {":", 0, api.ErrForm},
		{strings.Repeat("9", 300) + "x", 0, api.ErrForm},
	} {
		if n, e := num.Read(x.s); n != x.n || e != x.e {
			t.Errorf("Read(%q) = %d, %d, not %d, %d", x.s, n, e, x.n, x.e)
		}
	}
}

// P1.1, P2: digits without noughts ahead, that are read again.
func TestText(t *testing.T) {
	for n, want := range map[int]string{
		0: "0", 5: "5", -5: "-5", 100: "100",
		num.Most: "4611686018427387903", num.Least: "-4611686018427387904",
		num.Most + 1: "-4611686018427387904", math.MaxInt: "-1", math.MinInt: "0",
	} {
		if got := num.Text(n); got != want {
			t.Errorf("Text(%d) = %q, not %q", n, got, want)
		}
	}
	for _, n := range wholes() {
		text := num.Text(n)
		if text != wide(num.Wrap(n)).String() {
			t.Errorf("Text(%d) = %q", n, text)
		}
		if back, e := num.Read(text); back != num.Wrap(n) || e != api.OK {
			t.Errorf("Read(%q) = %d, %d", text, back, e)
		}
	}
}
