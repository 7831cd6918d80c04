package match_test

import (
	"math"
	"slices"
	"strconv"
	"testing"

	"scriptor/api"
	"scriptor/match"
)

// P15.1, P15.2: rows as programs have them, and the values that they tell apart.
func TestRows(t *testing.T) {
	nothing, list := con(0), func(l ...int) api.Val {
		v := vCon(0)
		for _, n := range slices.Backward(l) {
			v = vCons(vNum(n), v)
		}
		return v
	}
	odd := []api.Val{vNum(1), vNum(0), vStr(""), vStr("a"), vUnit(), vCon(0), vCon(1), vTup(), vTup(vNum(1), vNum(2)), {Kind: api.Float, Text: "a"}, {Kind: api.Pref, Num: 1}, {Kind: 9}, {Kind: -1, Num: 1}, {}}
	lists := append([]api.Val{list(), list(1), list(9), list(1, 2), list(5, 2, 7), list(5, 3), list(2, 2)}, odd...)
	holds(t, rows(nothing, cons(num(1), nothing), cons(named("h"), cons(num(2), wild)), cons(wild, nothing)), lists...)
	holds(t, rows(), lists...)
	holds(t, rows(wild), lists...)
	holds(t, rows(named("x"), nothing), lists...)
	holds(t, rows(nothing, nothing, wild), lists...)
	holds(t, rows(con(0), con(1, num(5), wild), wild), vCon(1, vNum(5), vUnit()), vCon(1, vNum(6), vUnit()), vNum(7), vCon(0), vCon(1), vCon(1, vNum(5)), vCon(1, vNum(5), vUnit(), vUnit()))
	// Patterns of all kinds, at one place.
	holds(t, rows(num(1), str("1"), unit(), con(1), tup(), con(1, wild), tup(wild), num(1), num(-1), str("")), odd...)
	holds(t, rows(tup(wild, num(2)), tup(num(1), wild), tup(num(3), num(4))), vTup(vNum(1), vNum(2)), vTup(vNum(1), vNum(3)), vTup(vNum(3), vNum(4)), vTup(vNum(3), vNum(3)), vTup(vNum(1)), vNum(1))
	holds(t, rows(tup(unit(), str("a")), tup(num(math.MaxInt), str("a")), tup(num(math.MinInt), wild)), vTup(vUnit(), vStr("a")), vTup(vNum(math.MaxInt), vStr("a")), vTup(vNum(math.MinInt), vUnit()), vTup(vNum(math.MaxInt), vUnit()))
	// Constructors of the greatest numbers, and of another count of parts.
	holds(t, rows(con(math.MaxInt), con(math.MaxInt, wild), con(math.MaxInt, wild, wild)), vCon(math.MaxInt), vCon(math.MaxInt, vUnit()), vCon(math.MaxInt, vUnit(), vUnit()), vCon(math.MaxInt, vUnit(), vUnit(), vUnit()), vCon(255))
}

// P15.1, P15.2: places far within a value, side by side.
func TestDeepPlaces(t *testing.T) {
	wrap := func(a, b, c match.Pat) match.Pat { return tup(tup(tup(wild, tup(wild, tup(a, b, c, tup(a, b)))))) }
	value := func(a, b, c, d, e int) api.Val {
		return vTup(vTup(vTup(vUnit(), vTup(vUnit(), vTup(vNum(a), vNum(b), vNum(c), vTup(vNum(d), vNum(e)))))))
	}
	var vals []api.Val
	for i := range 243 {
		vals = append(vals, value(i%3, i/3%3, i/9%3, i/27%3, i/81))
	}
	holds(t, rows(wrap(num(1), num(2), num(0)), wrap(wild, num(1), num(1)), wrap(num(2), wild, num(1)), wrap(num(0), num(0), wild)), vals...)
}

// P15.1: the example, number by number.
func TestExample(t *testing.T) {
	x := mustTree(t, con(0), con(1, num(5), wild), wild)
	for _, c := range []struct {
		v     api.Val
		want  int
		asked [][]int
	}{
		{vCon(1, vNum(5), vUnit()), 1, [][]int{nil, {0}}},
		{vCon(1, vNum(6), vUnit()), 2, [][]int{nil, {0}}},
		{vNum(7), 2, [][]int{nil}},
		{vCon(0), 0, [][]int{nil}},
	} {
		if n, asked := match.Run(x, c.v); n != c.want || !samePaths(asked, c.asked) {
			t.Errorf("%s: %d, %v", showVal(c.v), n, asked)
		}
	}
	if x := mustTree(t); !x.Leaf || x.Num != -1 {
		t.Error(showTree(x))
	}
	if x := mustTree(t, wild, num(1)); !x.Leaf || x.Num != 0 {
		t.Error(showTree(x))
	}
}

// P15.1: fields that mean nothing of a pattern, or of a value, play no part.
func TestOtherFields(t *testing.T) {
	wrong := []match.Pat{{Op: 77}, {Op: match.Con, Num: -1}}
	l := rows(
		match.Pat{Op: match.Int, Num: 1, Text: "x", Kids: wrong}, match.Pat{Op: match.Str, Num: 3, Text: "a", Kids: wrong}, match.Pat{Op: match.Unit, Num: 4, Text: "y", Kids: wrong},
		match.Pat{Op: match.Con, Num: 2, Text: "z", Kids: rows(wild)}, match.Pat{Op: match.Tuple, Num: -5, Text: "z", Kids: rows(num(1))}, match.Pat{Op: match.Var, Num: -5, Text: "z", Kids: wrong},
	)
	x := mustTree(t, l...)
	sound(t, x, l, map[string]fact{})
	for want, v := range []api.Val{
		{Kind: api.Int, Num: 1, Text: "q", Kids: []api.Val{{}}}, {Kind: api.Str, Num: 9, Text: "a", Kids: []api.Val{{}}}, {Kind: api.Unit, Num: 9, Text: "q", Kids: []api.Val{{}}},
		{Kind: api.Con, Num: 2, Text: "q", Kids: []api.Val{{}}}, {Kind: api.Tuple, Num: 9, Text: "q", Kids: []api.Val{{Num: 1, Text: "q"}}}, {Kind: api.Float, Num: 1, Text: "a"},
	} {
		if n, _ := match.Run(x, v); n != want {
			t.Errorf("%s: %d, not %d", showVal(v), n, want)
		}
	}
	if _, e := match.Compile(match.Pat{Op: match.Any, Kids: wrong}, match.Pat{Op: match.Any, Num: -1}); e != api.OK {
		t.Error(e)
	}
	if l := match.Binds(match.Pat{Op: match.Int, Kids: rows(named("x"))}); len(l) > 0 {
		t.Error(l)
	}
	if l := match.Binds(match.Pat{Op: match.Var, Text: "y", Kids: rows(named("x"))}); len(l) != 1 || l[0].Name != "y" {
		t.Error(l)
	}
}

// P15.1, P15.2: rows and values by chance, against what the document says of them.
func TestSome(t *testing.T) {
	d := dice(15)
	for range 3000 {
		l := make([]match.Pat, d.below(7))
		for i := range l {
			l[i] = d.pat(3)
			if i > 0 && d.below(3) == 0 {
				l[i] = l[d.below(i)]
			}
		}
		var vals []api.Val
		for range 30 {
			p := wild
			if len(l) > 0 && d.below(4) > 0 {
				p = l[d.below(len(l))]
			}
			vals = append(vals, d.val(p, 3))
		}
		holds(t, l, vals...)
	}
}

// P15.1, P15.2: tuples, in which each row asks at some places of few values: all of them are told apart rightly.
func TestTuples(t *testing.T) {
	var vals []api.Val
	for i := range 81 {
		vals = append(vals, vTup(vNum(i%3), vNum(i/3%3), vNum(i/9%3), vNum(i/27)))
	}
	d := dice(4)
	for range 300 {
		l := make([]match.Pat, 1+d.below(12))
		for i := range l {
			l[i] = tup(wild, wild, wild, wild)
			for k := range l[i].Kids {
				if d.below(2) == 0 {
					l[i].Kids[k] = num(d.below(3))
				}
			}
		}
		holds(t, l, vals...)
	}
}

// P15.1: what isn't a pattern.
func TestWrong(t *testing.T) {
	for _, bad := range []match.Pat{{Op: -1}, {Op: 7}, {Op: math.MaxInt}, {Op: math.MinInt}, con(-1), con(math.MinInt, wild)} {
		for _, l := range [][]match.Pat{
			{bad}, {wild, bad}, {num(1), bad, wild}, {tup(wild, bad)}, {con(0, bad), wild}, {con(1, tup(con(0), con(3, unit(), bad)))},
		} {
			if x, e := match.Compile(l...); e != api.ErrArg || showTree(x) != showTree(match.Tree{}) {
				t.Errorf("%d of %s: %s", e, showPats(l), showTree(x))
			}
		}
	}
	if x, e := match.Compile(con(0), con(math.MaxInt)); e != api.OK || x.Leaf {
		t.Error(e)
	}
}

// deep is a pattern of so many parts, but for itself, in one another.
func deep(parts int, end match.Pat) match.Pat {
	for range parts {
		end = con(1, end)
	}
	return end
}

// P15.1: patterns of 300 parts are taken; of those that have more it may be said that they are too many.
func TestParts(t *testing.T) {
	wide := func(n int) match.Pat { return con(7, slices.Repeat(rows(num(3)), n)...) }
	var many, threes []match.Pat
	for i := range 100 {
		threes = append(threes, con(i, num(i), str(strconv.Itoa(i)), wild))
	}
	for i := range 300 {
		many = append(many, num(i))
	}
	for _, l := range [][]match.Pat{rows(deep(300, unit())), rows(deep(299, wild), num(1)), rows(wide(300)), rows(wide(100), deep(200, num(1))), threes, many, rows(deep(100, num(1)), deep(100, num(2)), deep(100, num(3)))} {
		var vals []api.Val
		d := dice(len(l))
		for _, p := range l[:min(len(l), 20)] {
			vals = append(vals, d.val(p, 0), d.val(p, 0))
		}
		holds(t, l, vals...)
	}
	for _, l := range [][]match.Pat{rows(deep(301, unit())), rows(wide(301)), rows(wide(1000)), rows(deep(100000, wild)), append(threes, wide(1)), rows(wide(150), deep(150, num(1)), con(0, wild))} {
		if x, e := match.Compile(l...); e != api.OK && e != api.ErrBig || e == api.ErrBig && showTree(x) != showTree(match.Tree{}) {
			t.Errorf("%d: %d", len(l), e)
		}
	}
	// Rows alone make no tree deep.
	many = nil
	for i := range 50000 {
		many = append(many, num(i/2))
	}
	if x, e := match.Compile(many...); e == api.OK {
		for _, i := range []int{0, 1, 7, 24999} {
			if n, asked := match.Run(x, vNum(i)); n != 2*i || len(asked) != 1 {
				t.Errorf("%d: %d, %v", i, n, asked)
			}
		}
	} else if e != api.ErrBig {
		t.Error(e)
	}
}

// P15.1: the first row asks ahead of the others, and where none of it is left nothing is asked.
func TestNoMoreAsked(t *testing.T) {
	x := mustTree(t, tup(num(1), wild), tup(wild, num(2)), wild)
	for _, c := range []struct {
		v     api.Val
		want  int
		asked [][]int
	}{
		{vTup(vNum(1), vNum(2)), 0, [][]int{nil, {0}}}, {vTup(vNum(3), vNum(2)), 1, [][]int{nil, {0}, {1}}}, {vTup(vNum(3), vNum(3)), 2, [][]int{nil, {0}, {1}}}, {vUnit(), 2, [][]int{nil}},
	} {
		if n, asked := match.Run(x, c.v); n != c.want || !samePaths(asked, c.asked) {
			t.Errorf("%s: %d, %v", showVal(c.v), n, asked)
		}
	}
}

// P15.1: variables, and where they stand.
func TestBinds(t *testing.T) {
	for _, c := range []struct {
		p    match.Pat
		want []match.Bind
	}{
		{wild, nil}, {num(1), nil}, {named("x"), []match.Bind{{"x", nil}}}, {named(""), []match.Bind{{"", nil}}}, {con(3), nil},
		{cons(named("h"), cons(wild, named("t"))), []match.Bind{{"h", []int{0}}, {"t", []int{1, 1}}}},
		{tup(tup(named("a"), tup(named("b"), num(1)), named("c")), named("d"), unit(), str("x"), named("a")), []match.Bind{{"a", []int{0, 0}}, {"b", []int{0, 1, 0}}, {"c", []int{0, 2}}, {"d", []int{1}}, {"a", []int{4}}}},
		{
			tup(tup(tup(tup(tup(named("a"), named("b")), named("c")), wild, tup(named("d"), named("e"), named("f"))))),
			[]match.Bind{{"a", []int{0, 0, 0, 0, 0}}, {"b", []int{0, 0, 0, 0, 1}}, {"c", []int{0, 0, 0, 1}}, {"d", []int{0, 0, 2, 0}}, {"e", []int{0, 0, 2, 1}}, {"f", []int{0, 0, 2, 2}}},
		},
	} {
		l := match.Binds(c.p)
		if !slices.EqualFunc(l, c.want, func(a, b match.Bind) bool { return a.Name == b.Name && slices.Equal(a.Path, b.Path) }) {
			t.Errorf("%v, not %v", l, c.want)
		}
	}
	if l := match.Binds(deep(60000, named("x"))); len(l) != 1 || len(l[0].Path) != 60000 || slices.ContainsFunc(l[0].Path, func(i int) bool { return i != 0 }) {
		t.Error(len(l))
	}
	// In a value that matches, it is there.
	d := dice(33)
	for range 500 {
		p := d.pat(4)
		v := d.val(p, 2)
		for _, b := range match.Binds(p) {
			if _, ok := match.At(v, b.Path); !ok && matches(p, v) {
				t.Errorf("%s isn't in %s at %v", b.Name, showVal(v), b.Path)
			}
		}
	}
}

// P15.1: what stands at a place.
func TestAt(t *testing.T) {
	v := vCon(1, vNum(5), vTup(vStr("a"), vCon(0), api.Val{Kind: api.Pref, Num: 7}))
	for _, c := range []struct {
		path []int
		want api.Val
	}{
		{nil, v}, {[]int{}, v}, {[]int{0}, vNum(5)}, {[]int{1}, v.Kids[1]}, {[]int{1, 0}, vStr("a")}, {[]int{1, 1}, vCon(0)}, {[]int{1, 2}, api.Val{Kind: api.Pref, Num: 7}},
	} {
		if got, ok := match.At(v, c.path); !ok || !sameVal(got, c.want) {
			t.Errorf("%v: %s, %v", c.path, showVal(got), ok)
		}
	}
	for _, path := range [][]int{{2}, {-1}, {0, 0}, {1, 3}, {1, -1}, {1, 1, 0}, {math.MaxInt}, {math.MinInt, 0}, {2, 0}, {1, 0, 0}} {
		if got, ok := match.At(v, path); ok || !sameVal(got, api.Val{}) {
			t.Errorf("%v: %s", path, showVal(got))
		}
	}
	// Whatever a value is, its Kids are its parts.
	odd := api.Val{Kind: 99, Num: -1, Text: "t", Kids: []api.Val{{Kind: api.Int, Num: 1, Text: "u", Kids: []api.Val{vUnit()}}}}
	if got, ok := match.At(odd, []int{0}); !ok || !sameVal(got, odd.Kids[0]) {
		t.Error(showVal(got))
	}
	if got, ok := match.At(odd, nil); !ok || !sameVal(got, odd) {
		t.Error(showVal(got))
	}
}
