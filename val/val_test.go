package val_test

import (
	"bytes"
	"encoding/binary"
	"fmt"
	"math"
	"math/rand"
	"slices"
	"strings"
	"testing"

	"scriptor/api"
	"scriptor/val"
)

const (
	least     = -1 << 62
	most      = 1<<62 - 1
	maxObject = 1 << 40
)

func integer(n int) api.Val { return api.Val{Kind: api.Int, Num: n} }

func str(s string) api.Val { return api.Val{Kind: api.Str, Text: s} }

func bits(u uint64) api.Val {
	return api.Val{Kind: api.Float, Text: string(binary.BigEndian.AppendUint64(nil, u))}
}

func float(f float64) api.Val { return bits(math.Float64bits(f)) }

func con(n int, kids ...api.Val) api.Val { return api.Val{Kind: api.Con, Num: n, Kids: kids} }

func tuple(kids ...api.Val) api.Val { return api.Val{Kind: api.Tuple, Kids: kids} }

func pref(n int) api.Val { return api.Val{Kind: api.Pref, Num: n} }

func unit() api.Val { return api.Val{Kind: api.Unit} }

// deep is a value so deep, whose innermost part is v.
func deep(depth int, v api.Val) api.Val {
	for range depth - 1 {
		v = con(0, v)
	}
	return v
}

// of is a value of so many bytes.
func of(t *testing.T, size int) api.Val {
	t.Helper()
	// A tuple of eight has two bytes ahead of its parts, a text of 64 to 4096 three.
	var kids []api.Val
	left := size - 2
	for i := range 8 {
		part := left / (8 - i)
		kids = append(kids, str(strings.Repeat("s", part-3)))
		left -= part
	}
	if b := byRule(tuple(kids...)); len(b) != size {
		t.Fatalf("%d bytes, not %d", len(b), size)
	}
	return tuple(kids...)
}

// byRule is a value's bytes, as the document says them.
func byRule(v api.Val) []byte {
	nums := func(l ...int) (b []byte) {
		for _, n := range l {
			b = binary.AppendVarint(b, int64(n))
		}
		return b
	}
	b := nums(v.Kind)
	switch v.Kind {
	case 0, 5:
		return append(b, nums(v.Num)...)
	case 1, 2:
		return append(append(b, nums(len(v.Text))...), v.Text...)
	case 3:
		b = append(b, nums(v.Num, len(v.Kids))...)
	case 4:
		b = append(b, nums(len(v.Kids))...)
	}
	for _, kid := range v.Kids {
		b = append(b, byRule(kid)...)
	}
	return b
}

// good is values in form, the edges among them.
func good(t *testing.T) []api.Val {
	t.Helper()
	eight := []api.Val{integer(1), str("a"), float(1), unit(), pref(1), con(1), tuple(unit(), unit()), integer(-1)}
	return []api.Val{
		integer(0), integer(-1), integer(64), integer(least), integer(most),
		float(0), float(math.Copysign(0, -1)), float(1.5), float(math.Inf(1)), float(math.Inf(-1)), bits(0x7FF8000000000000), bits(1), bits(0xFFEFFFFFFFFFFFFF),
		str(""), str("a"), str("\x00\xff\n\"\\"), str(strings.Repeat("x", api.MaxStr)),
		con(0), con(255), con(2, unit()), con(255, eight...), con(0, eight[:3]...),
		tuple(unit(), unit()), tuple(eight...), tuple(eight[1:4]...),
		pref(1), pref(maxObject), unit(),
		deep(api.MaxDepth, unit()), deep(api.MaxDepth-1, tuple(pref(7), str("deep"))),
		of(t, api.MaxValue), of(t, api.MaxValue-1),
		tuple(deep(api.MaxDepth-1, pref(3)), con(1, tuple(pref(2), pref(3))), float(-2)),
	}
}

// bad is values that aren't in form.
func bad() []api.Val { return append(badParts(), badBytes()...) }

// badParts have something that their kind doesn't: no bytes tell of it.
func badParts() []api.Val {
	two := []api.Val{unit(), unit()}
	return []api.Val{
		{Kind: api.Int, Text: "x"}, {Kind: api.Int, Kids: two},
		{Kind: api.Float, Text: "12345678", Num: 1}, {Kind: api.Float, Text: "12345678", Kids: two},
		{Kind: api.Str, Text: "a", Num: 1}, {Kind: api.Str, Text: "a", Kids: two},
		{Kind: api.Con, Text: "c"}, {Kind: api.Tuple, Num: 1, Kids: two}, {Kind: api.Tuple, Text: "t", Kids: two},
		{Kind: api.Pref, Num: 1, Text: "p"}, {Kind: api.Pref, Num: 1, Kids: two},
		{Kind: api.Unit, Num: 1}, {Kind: api.Unit, Text: "u"}, {Kind: api.Unit, Kids: two},
	}
}

// badBytes have what no value has: their bytes aren't read.
func badBytes() []api.Val {
	nine := slices.Repeat([]api.Val{unit()}, 9)
	return []api.Val{
		integer(most + 1), integer(least - 1), integer(math.MaxInt), integer(math.MinInt),
		{Kind: api.Float}, {Kind: api.Float, Text: "1234567"}, {Kind: api.Float, Text: "123456789"},
		bits(0x7FF8000000000001), bits(0x7FF0000000000001), bits(0xFFF8000000000000), bits(0xFFFFFFFFFFFFFFFF), bits(0x7FFFFFFFFFFFFFFF),
		str(strings.Repeat("x", api.MaxStr+1)), con(-1), con(256), con(math.MaxInt), con(0, nine...), tuple(), tuple(unit()), tuple(nine...),
		pref(0), pref(-1), pref(maxObject + 1), pref(math.MinInt),
		{Kind: 7}, {Kind: -1}, {Kind: math.MaxInt}, {Kind: math.MinInt},
		deep(api.MaxDepth+1, unit()), deep(900, integer(1)),
	}
}

// around is values that have v somewhere.
func around(v api.Val) []api.Val {
	return []api.Val{v, con(9, v), tuple(v, unit()), tuple(unit(), integer(3), v), con(1, tuple(str("a"), con(2, pref(4), v)), unit())}
}

// P6.1: what is in form, and its bytes; P2, P6.2: a value comes back from them.
func TestGood(t *testing.T) {
	for i, v := range good(t) {
		b, e := val.Encode(v)
		if val.Check(v) != api.OK || e != api.OK || !bytes.Equal(b, byRule(v)) {
			t.Errorf("value %d: Check %d, Encode %.20x.., %d", i, val.Check(v), b, e)
		}
		w, e := val.Decode(b)
		if e != api.OK || !equal(v, w) || !val.Same(v, w) {
			t.Errorf("value %d comes back as %v, %d", i, w, e)
		}
	}
}

// equal: the same, but for empty lists and nil ones.
func equal(a, b api.Val) bool {
	return a.Kind == b.Kind && a.Num == b.Num && a.Text == b.Text && slices.EqualFunc(a.Kids, b.Kids, equal)
}

// P6.1: the document's examples.
func TestExamples(t *testing.T) {
	if b, e := val.Encode(integer(-1)); string(b) != "\x00\x01" || e != api.OK {
		t.Errorf("%x, %d", b, e)
	}
	if b, e := val.Encode(con(2, unit())); string(b) != "\x06\x04\x02\x0C" || e != api.OK {
		t.Errorf("%x, %d", b, e)
	}
	if s := val.Text(tuple(integer(1), str(`a"b`))); s != `(1,"a\"b")` {
		t.Error(s)
	}
}

// P6.1: what isn't in form, anywhere within, has no bytes.
func TestBad(t *testing.T) {
	for i, v := range bad() {
		for k, w := range around(v) {
			b, e := val.Encode(w)
			if val.Check(w) != api.ErrForm || b != nil || e != api.ErrForm {
				t.Errorf("value %d, around %d: Check %d, Encode %x, %d", i, k, val.Check(w), b, e)
			}
		}
	}
	for i, v := range badBytes() {
		for k, w := range around(v) {
			if _, e := val.Decode(byRule(w)); e != api.ErrForm {
				t.Errorf("value %d, around %d, is read: %d", i, k, e)
			}
		}
	}
	// An empty list is no list.
	if val.Check(api.Val{Kind: api.Unit, Kids: []api.Val{}}) != api.OK || val.Check(api.Val{Kids: []api.Val{}}) != api.OK {
		t.Error("an empty list")
	}
}

// P6.1: too many bytes: ErrBig, if it is in form else, wherever it isn't.
func TestBig(t *testing.T) {
	s := str(strings.Repeat("s", api.MaxStr))
	big := []api.Val{of(t, api.MaxValue+1), of(t, 2*api.MaxValue), tuple(s, s, s, s), con(0, of(t, api.MaxValue)), deep(api.MaxDepth, s)}
	for i, v := range big[:4] {
		b, e := val.Encode(v)
		if val.Check(v) != api.ErrBig || b != nil || e != api.ErrBig {
			t.Errorf("value %d: Check %d, Encode %d bytes, %d", i, val.Check(v), len(b), e)
		}
		if w, e := val.Decode(byRule(v)); !equal(w, api.Val{}) || e != api.ErrForm {
			t.Errorf("value %d is read: %d", i, e)
		}
		for k, x := range bad() {
			if val.Check(tuple(v, x)) != api.ErrForm || val.Check(tuple(x, v)) != api.ErrForm {
				t.Errorf("value %d beside %d: no ErrForm", i, k)
			}
		}
	}
	if val.Check(big[4]) != api.OK {
		t.Error("a long text, deep within")
	}
}

// P6.1, P6.2: bytes that are no value's.
func TestNoValue(t *testing.T) {
	for _, s := range []string{
		"", "\x0e", "\x01", "\x0c\x00", "\x8c\x00", "\x00", "\x00\x80\x00", "\x00\x80\x80\x80\x80\x80\x80\x80\x80\x80\x01",
		"\x02\x0e1234567", "\x02\x121234567890", "\x02\x10\x7f\xf8\x00\x00\x00\x00\x00\x01", "\x02\x10\xff\xf8\x00\x00\x00\x00\x00\x00",
		"\x04\x02", "\x04\x01", "\x04\x82\x00a", "\x06\x80\x04\x00", "\x06\x01\x00", "\x06\x00\x12" + strings.Repeat("\x0c", 9), "\x06\x00\x02", "\x06\x00\x01",
		"\x08\x00", "\x08\x02\x0c", "\x08\x12" + strings.Repeat("\x0c", 9), "\x08\x04\x0c", "\x08\x04\x0c\x0c\x0c",
		"\x0a\x00", "\x0a\x01", "\x0a\x82\x80\x80\x80\x80\x40",
		strings.Repeat("\x06\x00\x02", api.MaxDepth) + "\x0c", strings.Repeat("\x06\x00\x02", 5000) + "\x0c", strings.Repeat("\x06\x00\x10", 5400),
		"\x04\x82\x40" + strings.Repeat("x", api.MaxStr+1), strings.Repeat("\xff", 20000),
	} {
		if v, e := val.Decode([]byte(s)); !equal(v, api.Val{}) || e != api.ErrForm {
			t.Errorf("%.20x: %v, %d", s, v, e)
		}
	}
}

// P6.2: of all short bytes, of bytes that were changed, cut and made longer, those alone are read that Encode makes.
func TestNothingElseIsRead(t *testing.T) {
	read := 0
	check := func(b []byte) {
		v, e := val.Decode(b)
		if e != api.OK && (e != api.ErrForm || !equal(v, api.Val{})) {
			t.Fatalf("%x: %v beside %d", b, v, e)
		}
		if e == api.OK {
			read++
			if again, e := val.Encode(v); e != api.OK || !bytes.Equal(again, b) {
				t.Fatalf("%x is read as %v, whose bytes are %x, %d", b, v, again, e)
			}
		}
	}
	for u := range 1 << 16 {
		check([]byte{byte(u)})
		check([]byte{byte(u >> 8), byte(u)})
		check([]byte{6, byte(u >> 8), byte(u)})
		check([]byte{8, 4, byte(u >> 8), byte(u), 12})
		check([]byte{10, byte(u >> 8), byte(u)})
		check([]byte{2, 16, byte(u >> 8), byte(u), 0, 0, 0, 0, 0, 0})
	}
	dice := rand.New(rand.NewSource(6))
	for _, v := range good(t) {
		b := byRule(v)
		for range 300 {
			c := bytes.Clone(b)
			c[dice.Intn(min(len(c), 40))] ^= 1 << dice.Intn(8)
			check(c)
		}
		for i := range min(len(b), 40) {
			if _, e := val.Decode(b[:i]); e != api.ErrForm {
				t.Fatalf("%x is read", b[:i])
			}
		}
		if _, e := val.Decode(append(bytes.Clone(b), 0)); e != api.ErrForm {
			t.Fatalf("%.20x and a nought is read", b)
		}
	}
	if read < 1000 {
		t.Errorf("%d were read", read)
	}
}

// P6.1: two are the same if all of them is, of any values.
func TestSame(t *testing.T) {
	all := append(good(t), bad()...)
	for i, v := range all {
		for k, w := range all {
			if val.Same(v, w) != (i == k) {
				t.Errorf("%d and %d: %v", i, k, val.Same(v, w))
			}
		}
	}
	if !val.Same(con(1), api.Val{Kind: api.Con, Num: 1, Kids: []api.Val{}}) {
		t.Error("nil and an empty list")
	}
	if val.Same(deep(1000, integer(1)), deep(1000, integer(2))) || !val.Same(deep(1000, integer(1)), deep(1000, integer(1))) {
		t.Error("1000 deep")
	}
	if val.Same(float(0), float(math.Copysign(0, -1))) {
		t.Error("noughts are other bytes")
	}
}

// P6.1: which objects a value names, of any values, in their order, each as often as it stands.
func TestRefs(t *testing.T) {
	odd := api.Val{Kind: api.Pref, Num: -5, Text: "x", Kids: []api.Val{pref(8), integer(9)}}
	for _, x := range []struct {
		v    api.Val
		want []int
	}{
		{integer(7), nil}, {con(3), nil}, {pref(7), []int{7}}, {tuple(pref(9), pref(2), pref(9)), []int{9, 2, 9}},
		{tuple(con(1, pref(5), tuple(pref(4), unit())), pref(3), str("@6")), []int{5, 4, 3}},
		{tuple(odd, pref(1)), []int{-5, 8, 1}}, {deep(1000, pref(6)), []int{6}},
		{api.Val{Kind: 99, Num: 4, Kids: []api.Val{pref(0)}}, []int{0}},
	} {
		if got := val.Refs(x.v); !slices.Equal(got, x.want) {
			t.Errorf("%v: %v", x.v, got)
		}
	}
}

// P6.1: a value that names other objects: those that stand first for the elder ones.
func TestMove(t *testing.T) {
	l := []val.Pair{{Old: 1, New: 2}, {Old: 2, New: 3}, {Old: 1, New: 9}, {Old: -5, New: 0}, {Old: 3, New: 3}}
	odd := func(n, m int) api.Val {
		return api.Val{Kind: api.Pref, Num: n, Text: "x", Kids: []api.Val{pref(m), integer(1)}}
	}
	for _, x := range []struct{ v, want api.Val }{
		{pref(1), pref(2)}, {pref(2), pref(3)}, {pref(3), pref(3)}, {integer(1), integer(1)}, {con(1), con(1)},
		{tuple(pref(1), con(1, pref(2), str("1")), pref(1)), tuple(pref(2), con(1, pref(3), str("1")), pref(2))},
		{odd(-5, 1), odd(0, 2)}, {deep(1000, pref(1)), deep(1000, pref(2))},
	} {
		if got, ok := val.Move(x.v, l); !ok || !equal(got, x.want) {
			t.Errorf("%v: %v, %v", x.v, got, ok)
		}
	}
	for _, v := range []api.Val{pref(4), tuple(pref(1), pref(4)), tuple(con(3, pref(9)), pref(1)), odd(1, 4), odd(4, 1), deep(1000, pref(7))} {
		if got, ok := val.Move(v, l); ok || !equal(got, api.Val{}) {
			t.Errorf("%v: %v, %v", v, got, ok)
		}
	}
	if got, ok := val.Move(tuple(unit(), str("a")), nil); !ok || !equal(got, tuple(unit(), str("a"))) {
		t.Errorf("no pairs: %v, %v", got, ok)
	}
	if _, ok := val.Move(pref(1), nil); ok {
		t.Error("no pairs, and an object")
	}
}

// P6.1: as people read it.
func TestText(t *testing.T) {
	for _, x := range []struct {
		v    api.Val
		want string
	}{
		{integer(0), "0"}, {integer(-12), "-12"}, {integer(least), "-4611686018427387904"}, {integer(most), "4611686018427387903"},
		{float(0.1), "3fb999999999999a"}, {bits(0x7FF8000000000000), "7ff8000000000000"}, {float(math.Copysign(0, -1)), "8000000000000000"},
		{str(""), `""`}, {str("a b~ !"), `"a b~ !"`}, {str("\"\\"), `"\"\\"`}, {str("\x00\x1f\n\x7f\xff\xab"), `"\x00\x1f\x0a\x7f\xff\xab"`}, {str("é"), `"\xc3\xa9"`},
		{con(0), "C0"}, {con(255), "C255"}, {con(7, unit()), "C7(())"}, {con(7, con(1), integer(-1)), "C7(C1,-1)"},
		{tuple(unit(), unit()), "((),())"}, {tuple(integer(1), tuple(pref(2), str(",")), con(3, pref(4))), `(1,(@2,","),C3(@4))`},
		{pref(maxObject), "@1099511627776"}, {unit(), "()"}, {deep(3, pref(1)), "C0(C0(@1))"},
	} {
		if got := val.Text(x.v); got != x.want {
			t.Errorf("%s, not %s", got, x.want)
		}
	}
	for c := range 256 {
		want := fmt.Sprintf(`"\x%02x"`, c)
		if c >= 32 && c <= 126 {
			want = strings.ReplaceAll(fmt.Sprintf(`"%c"`, c), `\`, `\\`)
		}
		if c == '"' {
			want = `"\""`
		}
		if got := val.Text(str(string([]byte{byte(c)}))); got != want {
			t.Errorf("byte %d: %s, not %s", c, got, want)
		}
	}
}

// P1: values without an end, or far too deep, are answered, too.
func TestNoEnd(t *testing.T) {
	one, two := make([]api.Val, 1), make([]api.Val, 2)
	one[0] = api.Val{Kind: api.Con, Kids: one}
	two[0], two[1] = tuple(two...), tuple(two...)
	for i, v := range append([]api.Val{one[0], two[0], tuple(pref(1), two[1]), deep(60000, pref(1))}, bad()...) {
		b, e := val.Encode(v)
		if val.Check(v) != api.ErrForm || b != nil || e != api.ErrForm {
			t.Errorf("value %d: %d", i, e)
		}
		val.Same(v, v)
		val.Refs(v)
		val.Move(v, []val.Pair{{Old: 1, New: 2}})
		val.Text(v)
	}
}

// P6.3: what is handed in isn't kept or changed; answers are new memory.
func TestNothingShared(t *testing.T) {
	make2 := func() api.Val { return tuple(con(1, pref(5), str("a")), pref(6), con(2)) }
	v := make2()
	pairs := []val.Pair{{Old: 5, New: 7}, {Old: 6, New: 8}}
	b, _ := val.Encode(v)
	moved, _ := val.Move(v, pairs)
	refs := val.Refs(v)
	read, _ := val.Decode(b)
	again, _ := val.Decode(b)
	if !equal(v, make2()) || !slices.Equal(pairs, []val.Pair{{Old: 5, New: 7}, {Old: 6, New: 8}}) {
		t.Fatal("what was handed in was changed")
	}
	clear(b)
	v.Kids[0].Kids[0].Num, pairs[0].New = 99, 99
	if !equal(read, make2()) || !slices.Equal(refs, []int{5, 6}) || moved.Kids[0].Kids[0].Num != 7 {
		t.Error("what was handed in was kept")
	}
	_ = append(read.Kids[0].Kids, unit())
	_ = append(moved.Kids[0].Kids, unit())
	read.Kids[0].Kids[1].Text, moved.Kids[0].Kids[1].Text, moved.Kids[2].Num = "z", "z", 3
	if !equal(again, make2()) || v.Kids[0].Kids[1].Text != "a" || v.Kids[2].Num != 2 {
		t.Error("answers share memory")
	}
	x, _ := val.Encode(make2())
	y, _ := val.Encode(make2())
	x[0] = 77
	if !bytes.Equal(y, byRule(make2())) {
		t.Error("Encode answers no new memory")
	}
}
