package kind_test

import (
	"math"
	"slices"
	"strconv"
	"strings"
	"testing"

	"scriptor/api"
	"scriptor/kind"
)

// P12.1: types that are made.
func TestMade(t *testing.T) {
	for _, n := range []int{0, 1, 7, -3, math.MaxInt, math.MinInt} {
		if v := kind.Var(n); !same(v, kind.Type{Num: n}) {
			t.Errorf("Var(%d): %v", n, v)
		}
	}
	integer, list := kind.Con("int"), kind.Con("list", kind.Var(3))
	for want, got := range map[string]kind.Type{
		"int": integer, "(list '3)": list, "(-> int (list '3))": kind.Con("->", integer, list), "(t int int '0)": kind.Con("t", integer, integer, kind.Var(0)),
	} {
		if !same(got, ty(want)) {
			t.Errorf("%v, not %s", got, want)
		}
	}
	if c := kind.Con(""); c.Op == 0 || c.Text != "" {
		t.Errorf("%v", c)
	}
}

// P12.1: fresh variables, of each solver its own.
func TestFresh(t *testing.T) {
	a, b := kind.New(), kind.New()
	for i := 1; i <= 50; i++ {
		if v := a.Fresh(); !same(v, kind.Type{Num: i}) {
			t.Errorf("%v, not %d", v, i)
		}
	}
	unify(t, b, "'1 = int", "'2 = '7", "'9 = (list '4)")
	for i := 1; i <= 3; i++ {
		if v := b.Fresh(); !same(v, kind.Type{Num: i}) {
			t.Errorf("%v, not %d", v, i)
		}
	}
	// That it is fresh doesn't mean that it stands for nothing.
	full(t, b, "'1", "int")
	var zero kind.Solver
	if v := zero.Fresh(); v.Num != 1 {
		t.Errorf("%v", v)
	}
}

// P12.1: what is one, and what never can be.
func TestUnify(t *testing.T) {
	for _, line := range []string{
		"int = int", "(list int) = (list int)", "'1 = '1", "'1 = int", "int = '1", "(list '1) = '2", "'1 = '2", "(p '1 '2) = (p '2 '1)",
		"(-> '1 '1) = (-> int int)", "(p '1 '2) = (p int '1)", "'0 = '-1",
		"int = float: type", "(list int) = (list float): type", "int = (int int): type", "(int) = int", "(t int) = (t int int): type", "(t '1) = (u '1): type",
		"'1 = (list '1): type", "(list '1) = '1: type", "'1 = (p int (q '1)): type", "(p '1 '1) = (p int float): type", "(p '1 '2) = (p (l '2) (l '1)): type",
		"(-> '1 '2) = (-> '2 (l '1)): type", "(p '1 '2) = (p '2 '1)",
	} {
		unify(t, kind.New(), line)
	}
	// The Op of what is made doesn't matter, nor does its number.
	s := kind.New()
	for _, op := range []int{1, 2, -1, math.MaxInt, math.MinInt} {
		x := kind.Type{Op: op, Num: op, Text: "list", Kids: []kind.Type{{Op: 7, Num: 3, Text: "int"}}}
		if e := s.Unify(ty("(list int)"), x); e != api.OK {
			t.Errorf("%d: %d", op, e)
		}
		if e := s.Unify(ty("(list float)"), x); e != api.ErrType {
			t.Errorf("%d: %d", op, e)
		}
	}
	for _, line := range []string{"int = int", "'1 = int", "'1 = '1", "int = float"} {
		a, b, _ := strings.Cut(line, "=")
		if e := (*kind.Solver)(nil).Unify(ty(a), ty(b)); e != api.ErrArg {
			t.Errorf("no solver: %d", e)
		}
	}
	unify(t, &kind.Solver{}, "'1 = int", "int = '1", "'1 = float: type")
}

// P12.1: which variable stands for what.
func TestStands(t *testing.T) {
	s := kind.New()
	unify(t, s, "'1 = '2")
	full(t, s, "'1", "'2")
	full(t, s, "'2", "'2")
	unify(t, s, "'1 = '1", "'2 = '1", "'1 = '3")
	full(t, s, "(p '1 '2 '3 '4)", "(p '3 '3 '3 '4)")
	unify(t, s, "(list '4) = '2", "'5 = '1")
	full(t, s, "(p '1 '2 '3 '4 '5)", "(p (list '4) (list '4) (list '4) '4 (list '4))")
	unify(t, s, "'3 = (list int)", "'1 = (list float): type", "'4 = int")
	full(t, s, "(p '5 '4)", "(p (list int) int)")
	unify(t, s, "'1 = '4: type", "'4 = '1: type", "'8 = '9", "'9 = '8", "'9 = (p '8): type", "'8 = (p '9): type", "(q '8 '9) = (q '9 '8)")
	full(t, s, "'8", "'9")
	// A number is one whatever its size.
	unify(t, s, "'-5 = '0", "'0 = float", "'9223372036854775807 = '-9223372036854775808", "'-9223372036854775808 = unit")
	full(t, s, "(p '-5 '0 '9223372036854775807)", "(p float float unit)")
}

// P12.1: parts are unified from the first to the last, each in full; behind an error nothing more is found out.
func TestOrder(t *testing.T) {
	s := kind.New()
	unify(t, s, "(p '1 int '2) = (p string float unit): type")
	full(t, s, "(p '1 '2)", "(p string '2)")
	unify(t, s, "(p (q '3 int) '4) = (p (q unit float) unit): type")
	full(t, s, "(p '3 '4)", "(p unit '4)")
	unify(t, s, "(p '5 (q '6)) = (p (l '7) (q '5))")
	full(t, s, "'6", "(l '7)")
	unify(t, s, "(p '10 '10) = (p '11 '12)")
	full(t, s, "(p '10 '11 '12)", "(p '12 '12 '12)")
	// Another count of parts is told ahead of these.
	unify(t, s, "(p '20 int) = (p int): type", "(p '20 int) = (q int int): type")
	full(t, s, "'20", "'20")
}

// P12.1: a type that a variable stands for has 1000 parts at most, and that is looked at ahead of whether the variable is in it.
func TestMaxParts(t *testing.T) {
	for _, x := range []kind.Type{wide(1000), deep(1000, kind.Var(2)), kind.Con("p", wide(500), deep(499, ty("int")))} {
		for range 2 {
			s := kind.New()
			if e := s.Unify(kind.Var(1), x); e != api.OK {
				t.Errorf("%d", e)
			}
			if got, e := s.Full(kind.Var(1)); e != api.OK || !same(got, x) {
				t.Errorf("%d: %s", e, tell(got))
			}
			big(t, s, kind.Con("l", kind.Var(1)))
			if e := s.Unify(kind.Con("l", kind.Var(1)), kind.Var(3)); e != api.ErrBig {
				t.Errorf("%d", e)
			}
			full(t, s, "'3", "'3")
			x = kind.Swap(x, []int{2}, []kind.Type{ty("int")})
		}
	}
	for _, x := range []kind.Type{wide(1001), deep(1001, kind.Var(1)), deep(1001, kind.Var(2)), kind.Con("p", wide(500), deep(500, ty("int"))), wide(100000), deep(60000, kind.Var(1)), endless()} {
		s := kind.New()
		if e, f := s.Unify(kind.Var(1), x), s.Unify(x, kind.Var(1)); e != api.ErrBig || f != api.ErrBig {
			t.Errorf("%d, %d", e, f)
		}
		full(t, s, "'1", "'1")
		big(t, s, x)
	}
	s := kind.New()
	if e := s.Unify(kind.Var(1), deep(1000, kind.Var(1))); e != api.ErrType {
		t.Errorf("%d", e)
	}
	// Parts are counted in full, each as often as it stands; what is found out later may make more of them.
	for i := range 10 {
		n := strconv.Itoa(101 + i)
		unify(t, s, "'"+strconv.Itoa(100+i)+" = (two '"+n+" '"+n+")")
	}
	big(t, s, ty("'100"))
	if x, e := s.Full(ty("'102")); e != api.OK || count(x) != 511 {
		t.Errorf("%d: %d parts", e, count(x))
	}
	unify(t, s, "'7 = '100: big", "'7 = '102", "'8 = (p '101): big", "'8 = '109", "'110 = '101: big", "'110 = '102: type", "'7 = '102")
}

func count(t kind.Type) int {
	n := 1
	for _, kid := range t.Kids {
		n += count(kid)
	}
	return n
}

// P12.1: how many pairs one Unify looks at.
func TestMaxPairs(t *testing.T) {
	vars := func(from, n int) kind.Type {
		x := kind.Type{Op: 1, Text: "p"}
		for i := range n {
			x.Kids = append(x.Kids, kind.Var(from+i))
		}
		return x
	}
	s := kind.New()
	if e := s.Unify(vars(1, 9999), vars(20001, 9999)); e != api.OK {
		t.Errorf("%d", e)
	}
	full(t, s, "(p '1 '9999 '20001)", "(p '20001 '29999 '20001)")
	s = kind.New()
	if e := s.Unify(vars(1, 10000), vars(20001, 10000)); e != api.ErrBig {
		t.Errorf("%d", e)
	}
	full(t, s, "(p '9999 '10000 '20001)", "(p '29999 '10000 '20001)")
	// The next pair isn't looked at, though it be wrong; what is wrong ahead of it is told.
	x := vars(1, 10000)
	x.Kids[9999] = ty("(q '1)")
	if e := kind.New().Unify(vars(1, 10000), x); e != api.ErrBig {
		t.Errorf("%d", e)
	}
	x.Kids[9998] = ty("(q '9999)")
	if e := kind.New().Unify(vars(1, 10000), x); e != api.ErrType {
		t.Errorf("%d", e)
	}
	if e := kind.New().Unify(deep(10000, ty("int")), deep(10000, ty("int"))); e != api.OK {
		t.Errorf("%d", e)
	}
	if e := kind.New().Unify(deep(10001, ty("int")), deep(10001, ty("int"))); e != api.ErrBig {
		t.Errorf("%d", e)
	}
	if e := kind.New().Unify(endless(), endless()); e != api.ErrBig {
		t.Errorf("%d", e)
	}
	// Pairs that variables stand for count, and the next Unify begins anew.
	s = kind.New()
	unify(t, s, "'1 = (two int int)")
	for i := 2; i <= 8; i++ {
		n := strconv.Itoa(i - 1)
		unify(t, s, "'"+strconv.Itoa(i)+" = (two '"+n+" '"+n+")")
	}
	// '8 has 511 parts: 19 pairs of it are 9709, and the first is 1; 20 are too many.
	for n, want := range map[int]api.Errno{19: api.OK, 20: api.ErrBig} {
		x := kind.Type{Op: 1, Text: "p"}
		for range n {
			x.Kids = append(x.Kids, kind.Var(8))
		}
		y := kind.Swap(x, []int{8}, []kind.Type{kind.Con("two", kind.Var(7), kind.Var(7))})
		if e := s.Unify(x, y); e != want {
			t.Errorf("%d: %d", n, e)
		}
	}
}

// P12.1: types in full.
func TestFull(t *testing.T) {
	s := kind.New()
	for _, src := range []string{"int", "'1", "(list '1)", "(-> '1 (-> '2 '1))"} {
		full(t, s, src, src)
	}
	unify(t, s, "'1 = (list '2)")
	full(t, s, "(-> '1 (-> '2 '1))", "(-> (list '2) (-> '2 (list '2)))")
	unify(t, s, "'2 = '3")
	full(t, s, "(-> '1 (-> '2 '1))", "(-> (list '3) (-> '3 (list '3)))")
	unify(t, s, "'3 = bool")
	full(t, s, "(-> '1 (-> '2 '1))", "(-> (list bool) (-> bool (list bool)))")
	for parts, want := range map[int]api.Errno{1: api.OK, 999: api.OK, 1000: api.OK, 1001: api.ErrBig, 5000: api.ErrBig} {
		for _, x := range []kind.Type{wide(parts), deep(parts, kind.Var(9))} {
			if _, e := s.Full(x); e != want {
				t.Errorf("%d parts: %d", parts, e)
			}
		}
	}
	if x, e := (*kind.Solver)(nil).Full(ty("int")); e != api.ErrArg || !same(x, kind.Type{}) {
		t.Errorf("no solver: %d, %s", e, tell(x))
	}
	if x, e := new(kind.Solver).Full(ty("(list '1)")); e != api.OK || tell(x) != "(list '1)" {
		t.Errorf("%d, %s", e, tell(x))
	}
}

// P12.1: variables that stand for variables, in long rows.
func TestRows(t *testing.T) {
	const last = 60000
	up, down := kind.New(), kind.New()
	for i := 1; i < last; i++ {
		if up.Unify(kind.Var(i), kind.Var(i+1)) != api.OK || down.Unify(kind.Var(last-i), kind.Var(last+1-i)) != api.OK {
			t.Fatal(i)
		}
	}
	for i := 1; i <= last; i++ {
		if up.Unify(kind.Var(1), kind.Var(i)) != api.OK || down.Unify(kind.Var(i), kind.Var(1)) != api.OK {
			t.Fatal(i)
		}
	}
	full(t, up, "'1", "'60000")
	full(t, down, "'1", "'60000")
	unify(t, up, "'30000 = int", "'1 = float: type")
	unify(t, down, "'1 = int", "'30000 = float: type")
}

// P12.1: variables, as they come first.
func TestVars(t *testing.T) {
	for src, want := range map[string][]int{
		"int": nil, "(t int)": nil, "'4": {4}, "(-> '9 (-> '4 '9))": {9, 4}, "(p (q '-1 '7) '3 (q '7 '0))": {-1, 7, 3, 0}, "(p '3 '2 '1 '2 '3)": {3, 2, 1},
	} {
		if l := kind.Vars(ty(src)); !slices.Equal(l, want) {
			t.Errorf("%s: %v", src, l)
		}
	}
	if l := kind.Vars(kind.Type{Op: -1, Num: 5, Kids: []kind.Type{{Op: 3, Num: 8}, {Num: 2}}}); !slices.Equal(l, []int{2}) {
		t.Errorf("%v", l)
	}
}

// P12.1: types in the place of variables.
func TestSwap(t *testing.T) {
	for _, c := range []struct {
		src  string
		vars []int
		by   string
		want string
	}{
		{"int", []int{1}, "(by float)", "int"},
		{"'1", []int{1}, "(by float)", "float"},
		{"(p '1 '2 '1)", []int{1}, "(by (l '1))", "(p (l '1) '2 (l '1))"},
		{"(p '1 '2 '1)", []int{1, 2}, "(by '2 '1)", "(p '2 '1 '2)"},
		{"(p '1 '2)", []int{2, 1, 2, 1}, "(by a b c d)", "(p b a)"},
		{"(p '1 '2 '3)", []int{3, 2, 1}, "(by a)", "(p '1 '2 a)"},
		{"(p '1 '2)", []int{1, 2, 1}, "(by a)", "(p a '2)"},
		{"(p '1 '2)", []int{2, 1, 1}, "(by a)", "(p '1 a)"},
		{"(p '1 '2)", []int{1}, "(by a b c)", "(p a '2)"},
		{"(p '1 '2)", nil, "(by a b)", "(p '1 '2)"},
		{"(p '1 '2)", []int{1, 2}, "by", "(p '1 '2)"},
		{"(p (q '-7) '0)", []int{0, -7}, "(by a b)", "(p (q b) a)"},
	} {
		if got := kind.Swap(ty(c.src), c.vars, ty(c.by).Kids); !same(got, ty(c.want)) {
			t.Errorf("%s, %v, %s: %s, not %s", c.src, c.vars, c.by, tell(got), c.want)
		}
	}
}

// P12.1: types as people write them.
func TestShow(t *testing.T) {
	for src, want := range map[string]string{
		"int": "int", "(list int)": "(list int)", "'77": "'a", "(-> '5 '2 '5)": "(-> 'a 'b 'a)", "(p (q '2 (r '1)) '1 '0 '2)": "(p (q 'a (r 'b)) 'b 'c 'a)",
		"(-> (list '3) (-> unit (list '3)))": "(-> (list 'a) (-> unit (list 'a)))",
	} {
		if s := kind.Show(ty(src)); s != want {
			t.Errorf("%s: %s", src, s)
		}
	}
	all := kind.Type{Op: 2, Num: 9, Text: "all"}
	want := "(all"
	for i := range 80 {
		all.Kids = append(all.Kids, kind.Var(500-i))
		want += " '" + string(rune('a'+i%26)) + []string{"", "1", "2", "3"}[i/26]
	}
	all.Kids = append(all.Kids, kind.Var(500), kind.Var(421))
	if s := kind.Show(all); s != want+" 'a 'b3)" {
		t.Errorf("%s", s)
	}
	if s := kind.Show(kind.Type{Op: 1}); s != "" {
		t.Errorf("%q", s)
	}
}

// P12.2: what was made one is the same in full, and no more was made one than had to be.
func TestUnified(t *testing.T) {
	d := dice(12)
	answers := map[api.Errno]int{}
	for range 30000 {
		s, vars := kind.New(), 2+d.below(6)
		known := map[int]kind.Type{}
		for range 1 + d.below(4) {
			a, b := d.some(d.below(4), vars), d.some(d.below(4), vars)
			e := s.Unify(a, b)
			answers[e]++
			if want := plainly(known, a, b); e != want {
				t.Fatalf("%s = %s: %d, not %d", tell(a), tell(b), e, want)
			}
			x, _ := s.Full(a)
			y, _ := s.Full(b)
			if e == api.OK && !same(x, y) {
				t.Fatalf("%s = %s: %s, %s", tell(a), tell(b), tell(x), tell(y))
			}
			for n := 1; n <= vars; n++ {
				if x, _ := s.Full(kind.Var(n)); !same(x, swapAll(known, kind.Var(n))) {
					t.Fatalf("%s = %s: '%d is %s, not %s", tell(a), tell(b), n, tell(x), tell(swapAll(known, kind.Var(n))))
				}
			}
		}
	}
	if answers[api.OK] < 5000 || answers[api.ErrType] < 5000 {
		t.Errorf("%v", answers)
	}
}

// P12.2: what doesn't matter of a type isn't in an answer: so both are the same.
func TestOps(t *testing.T) {
	odd := kind.Type{Op: -4, Num: 9, Text: "l", Kids: []kind.Type{{Op: 7, Num: 1, Text: "int"}, {Num: 3, Text: "x"}}}
	s := kind.New()
	if e, f := s.Unify(kind.Var(1), odd), s.Unify(odd, ty("(l int '2)")); e != api.OK || f != api.OK {
		t.Errorf("%d, %d", e, f)
	}
	full(t, s, "'1", "(l int '2)")
	if x, e := s.Full(odd); e != api.OK || !same(x, ty("(l int '2)")) {
		t.Errorf("%v, %d", x, e)
	}
	if x := kind.Swap(odd, []int{3}, []kind.Type{{Op: 2, Num: 2, Text: "unit"}}); !same(x, ty("(l int unit)")) {
		t.Errorf("%v", x)
	}
}

// plainly unifies by putting each variable's type in its place everywhere at once.
func plainly(known map[int]kind.Type, a, b kind.Type) api.Errno {
	a, b = swapAll(known, a), swapAll(known, b)
	if a.Op == 0 || b.Op == 0 {
		if a.Op != 0 {
			a, b = b, a
		}
		if same(a, b) {
			return api.OK
		}
		if strings.Contains(tell(b)+" ", "'"+strconv.Itoa(a.Num)+" ") || strings.Contains(tell(b), "'"+strconv.Itoa(a.Num)+")") {
			return api.ErrType
		}
		for n, x := range known {
			known[n] = swapAll(map[int]kind.Type{a.Num: b}, x)
		}
		known[a.Num] = b
		return api.OK
	}
	if a.Text != b.Text || len(a.Kids) != len(b.Kids) {
		return api.ErrType
	}
	for i := range a.Kids {
		if e := plainly(known, a.Kids[i], b.Kids[i]); e != api.OK {
			return e
		}
	}
	return api.OK
}

func swapAll(by map[int]kind.Type, t kind.Type) kind.Type {
	if x, ok := by[t.Num]; ok && t.Op == 0 {
		return x
	}
	t.Kids = slices.Clone(t.Kids)
	for i := range t.Kids {
		t.Kids[i] = swapAll(by, t.Kids[i])
	}
	return t
}

// P12.3: what is handed in isn't changed, its spare room neither, and not kept.
func TestHandedIn(t *testing.T) {
	room := append(make([]kind.Type, 0, 4), ty("(q '1 '2)"), ty("'1"))
	room[:4][2], room[:4][3] = ty("spare"), ty("room")
	x := kind.Type{Op: 1, Text: "p", Kids: room}
	was := deepCopy(x)
	vars, by := append(make([]int, 0, 3), 1), append(make([]kind.Type, 0, 3), ty("(l '9)"))
	vars[:3][1], by[:3][1] = 2, ty("spare")
	s := kind.New()
	unify(t, s, "'1 = int")
	within := kind.Type{Op: 1, Text: "l", Kids: []kind.Type{x}}
	if e, f, g := s.Unify(kind.Var(5), x), s.Unify(within, ty("'6")), s.Unify(ty("(l '7)"), within); e != api.OK || f != api.OK || g != api.OK {
		t.Errorf("%d, %d, %d", e, f, g)
	}
	made := kind.Con("made", room...)
	got, _ := s.Full(x)
	swapped := kind.Swap(x, vars, by)
	if s, l := kind.Show(x), kind.Vars(x); s != "(p (q 'a 'b) 'a)" || len(l) != 2 {
		t.Errorf("%s, %v", s, l)
	}
	if !same(x, was) || !same(room[:4][2], ty("spare")) || !same(room[:4][3], ty("room")) || vars[0] != 1 || vars[:3][1] != 2 || !same(by[0], ty("(l '9)")) || !same(by[:3][1], ty("spare")) {
		t.Errorf("changed: %s", tell(x))
	}
	spoil(room[:4])
	spoil(by[:3])
	full(t, s, "'5", "(p (q int '2) int)")
	full(t, s, "'6", "(l (p (q int '2) int))")
	full(t, s, "'7", "(p (q int '2) int)")
	if tell(made) != "(made (q '1 '2) '1)" || tell(got) != "(p (q int '2) int)" || tell(swapped) != "(p (q (l '9) '2) (l '9))" {
		t.Errorf("kept: %s, %s, %s", tell(made), tell(got), tell(swapped))
	}
}

// P12.3: an answer is memory of its own, and no two of its lists are one.
func TestAnswers(t *testing.T) {
	s := kind.New()
	unify(t, s, "'1 = (l '2)", "'2 = (m int)")
	for range 2 {
		x, _ := s.Full(ty("(p '1 '1 '2)"))
		spoil(x.Kids[0].Kids)
		if tell(x) != "(p (l spoilt) (l (m int)) (m int))" {
			t.Error(tell(x))
		}
		spoil(x.Kids)
		y, _ := s.Full(kind.Var(1))
		spoil(y.Kids)
	}
	full(t, s, "'1", "(l (m int))")
	by := []kind.Type{ty("(l int)")}
	x := kind.Swap(ty("(p '1 '1)"), []int{1}, by)
	spoil(x.Kids[0].Kids)
	if tell(x) != "(p (l spoilt) (l int))" || tell(by[0]) != "(l int)" {
		t.Error(tell(x), tell(by[0]))
	}
	shared := ty("(l int)")
	made := kind.Con("p", shared, shared)
	spoil(made.Kids[0].Kids)
	if tell(made) != "(p (l spoilt) (l int))" || tell(shared) != "(l int)" {
		t.Error(tell(made), tell(shared))
	}
	l := kind.Vars(ty("(p '1 '2)"))
	l[0] = 9
	if !slices.Equal(kind.Vars(ty("(p '1 '2)")), []int{1, 2}) {
		t.Error("Vars")
	}
}

// P1: no type, however odd, is more than a call can answer to.
func TestAnyType(t *testing.T) {
	odd := []kind.Type{{}, {Op: 1}, {Op: -1, Num: -1, Text: "\x00", Kids: []kind.Type{{}}}, {Num: 4, Text: "x", Kids: []kind.Type{ty("int")}}, endless(), {Num: 3, Kids: endless().Kids},
		deep(65536, kind.Var(1)), deep(70000, ty("int")), wide(100000), kind.Con("p", endless())}
	solvers := []*kind.Solver{nil, {}, kind.New()}
	for _, a := range odd {
		kind.Show(a)
		kind.Vars(a)
		kind.Con("p", a, a)
		for _, s := range solvers {
			s.Full(a)
			s.Fresh()
		}
		for _, b := range odd {
			kind.Swap(a, []int{0, 1, 4}, []kind.Type{b, b})
			for _, s := range solvers {
				s.Unify(a, b)
			}
		}
	}
	if s := kind.Show(deep(65536, kind.Var(1))); len(s) != 65535*7+2 {
		t.Errorf("%d bytes", len(s))
	}
	// A variable is its number alone.
	x := kind.Type{Num: 4, Text: "x", Kids: wide(2000).Kids}
	s := kind.New()
	if got, e := s.Full(kind.Type{Op: 1, Text: "l", Kids: []kind.Type{x}}); e != api.OK || tell(got) != "(l '4)" || kind.Show(x) != "'a" || !slices.Equal(kind.Vars(x), []int{4}) {
		t.Errorf("%d, %s", e, tell(got))
	}
	x.Kids[0] = kind.Var(8)
	if e := s.Unify(kind.Var(1), x); e != api.OK || !slices.Equal(kind.Vars(x), []int{4}) {
		t.Errorf("%d, %v", e, kind.Vars(x))
	}
	full(t, s, "'1", "'4")
}
