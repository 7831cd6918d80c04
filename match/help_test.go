package match_test

import (
	"slices"
	"strconv"
	"strings"
	"testing"

	"scriptor/api"
	"scriptor/match"
)

// Patterns and values, shortly.
var wild = match.Pat{Op: match.Any}

func named(s string) match.Pat            { return match.Pat{Op: match.Var, Text: s} }
func num(n int) match.Pat                 { return match.Pat{Op: match.Int, Num: n} }
func str(s string) match.Pat              { return match.Pat{Op: match.Str, Text: s} }
func unit() match.Pat                     { return match.Pat{Op: match.Unit} }
func con(n int, l ...match.Pat) match.Pat { return match.Pat{Op: match.Con, Num: n, Kids: l} }
func tup(l ...match.Pat) match.Pat        { return match.Pat{Op: match.Tuple, Kids: l} }
func vNum(n int) api.Val                  { return api.Val{Kind: api.Int, Num: n} }
func vStr(s string) api.Val               { return api.Val{Kind: api.Str, Text: s} }
func vUnit() api.Val                      { return api.Val{Kind: api.Unit} }
func vCon(n int, l ...api.Val) api.Val    { return api.Val{Kind: api.Con, Num: n, Kids: l} }
func vTup(l ...api.Val) api.Val           { return api.Val{Kind: api.Tuple, Kids: l} }
func rows(l ...match.Pat) []match.Pat     { return l }
func samePat(a, b match.Pat) bool         { return showPat(a) == showPat(b) }
func sameVal(a, b api.Val) bool           { return showVal(a) == showVal(b) }
func samePaths(a, b [][]int) bool         { return slices.EqualFunc(a, b, slices.Equal[[]int]) }
func showTree(t match.Tree) string        { return showNode(t, 0) }
func place(path []int) string             { return strings.Trim(strings.Join(digits(path), "."), ".") }
func below(path []int, i int) []int       { return append(slices.Clone(path), i) }
func cons(h, t match.Pat) match.Pat       { return con(1, h, t) }
func vCons(h, t api.Val) api.Val          { return vCon(1, h, t) }
func mustTree(t *testing.T, l ...match.Pat) match.Tree {
	t.Helper()
	x, e := match.Compile(l...)
	if e != api.OK {
		t.Fatalf("%d of %s", e, showPats(l))
	}
	return x
}

func digits(l []int) []string {
	var s []string
	for _, n := range l {
		s = append(s, strconv.Itoa(n))
	}
	return s
}

func showPats(l []match.Pat) string {
	var b strings.Builder
	for _, p := range l {
		b.WriteString(showPat(p) + " ")
	}
	return b.String()
}

// showPat tells all of a pattern, what plays no part, too.
func showPat(p match.Pat) string {
	s := strconv.Itoa(p.Op) + ":" + strconv.Itoa(p.Num) + strconv.Quote(p.Text)
	if len(p.Kids) > 0 {
		s += "(" + showPats(p.Kids) + ")"
	}
	return s
}

func showVal(v api.Val) string {
	s := strconv.Itoa(v.Kind) + ":" + strconv.Itoa(v.Num) + strconv.Quote(v.Text)
	for _, kid := range v.Kids {
		s += "[" + showVal(kid) + "]"
	}
	return s
}

func showNode(t match.Tree, depth int) string {
	s := strings.Repeat(" ", depth) + strconv.FormatBool(t.Leaf) + " " + strconv.Itoa(t.Num) + " at " + place(t.Path) + ": " + showPats(t.Tests) + "\n"
	for _, kid := range t.Kids {
		s += showNode(kid, depth+1)
	}
	return s
}

// matches: as the document has it.
func matches(p match.Pat, v api.Val) bool {
	all := func() bool { return slices.EqualFunc(p.Kids, v.Kids, matches) }
	switch p.Op {
	case match.Any, match.Var:
		return true
	case match.Int:
		return v.Kind == api.Int && v.Num == p.Num
	case match.Str:
		return v.Kind == api.Str && v.Text == p.Text
	case match.Unit:
		return v.Kind == api.Unit
	case match.Con:
		return v.Kind == api.Con && v.Num == p.Num && all()
	case match.Tuple:
		return v.Kind == api.Tuple && all()
	}
	panic(p.Op)
}

func firstRow(l []match.Pat, v api.Val) int {
	return slices.IndexFunc(l, func(p match.Pat) bool { return matches(p, v) })
}

// fact is what a way through a tree has told of a place: which test fits there, or (yes is false) that none of some does.
type fact struct {
	yes   bool
	tests []match.Pat
}

// atPlace: do two patterns ask the same of the place itself?
func atPlace(a, b match.Pat) bool {
	if a.Op != b.Op {
		return false
	}
	switch a.Op {
	case match.Int:
		return a.Num == b.Num
	case match.Str:
		return a.Text == b.Text
	case match.Con:
		return a.Num == b.Num && len(a.Kids) == len(b.Kids)
	case match.Tuple:
		return len(a.Kids) == len(b.Kids)
	}
	return true
}

// look: can a value of which this is known match, and does it certainly?
func look(p match.Pat, path []int, known map[string]fact) (can, must bool) {
	if p.Op == match.Any || p.Op == match.Var {
		return true, true
	}
	f, ok := known[place(path)]
	fits := slices.ContainsFunc(f.tests, func(x match.Pat) bool { return atPlace(x, p) })
	switch {
	case !ok:
		return true, false
	case !f.yes:
		return !fits, false
	case !fits:
		return false, false
	case p.Op != match.Con && p.Op != match.Tuple:
		return true, true
	}
	must = true
	for i, kid := range p.Kids {
		kidCan, kidMust := look(kid, below(path, i), known)
		if !kidCan {
			return false, false
		}
		must = must && kidMust
	}
	return true, must
}

// isThere: do the answers so far say that there is such a place?
func isThere(path []int, known map[string]fact) bool {
	if len(path) == 0 {
		return true
	}
	last := len(path) - 1
	f := known[place(path[:last])]
	return f.yes && path[last] >= 0 && path[last] < len(f.tests[0].Kids)
}

// sound: is it a tree of these rows, all the way down, if so much is known? It answers how many questions it has.
func sound(t *testing.T, x match.Tree, l []match.Pat, known map[string]fact) int {
	t.Helper()
	first, sure := -1, false
	for i, p := range l {
		if can, must := look(p, nil, known); can {
			first, sure = i, must
			break
		}
	}
	if x.Leaf {
		if x.Num != first || first >= 0 && !sure || len(x.Path)+len(x.Tests)+len(x.Kids) > 0 {
			t.Fatalf("a leaf %d, but %d (%v):\n%s", x.Num, first, sure, showTree(x))
		}
		return 0
	}
	key := place(x.Path)
	if _, twice := known[key]; twice || !isThere(x.Path, known) {
		t.Fatalf("asked at %q: twice: %v", key, twice)
	}
	if first < 0 || sure || x.Num != 0 || len(x.Tests) == 0 || len(x.Kids) != len(x.Tests)+1 {
		t.Fatalf("a question, but %d (%v):\n%s", first, sure, showTree(x))
	}
	n := 1
	for i, kid := range x.Kids {
		f := fact{false, x.Tests}
		if i < len(x.Tests) {
			f = fact{true, x.Tests[i : i+1]}
			oneTest(t, x.Tests, i)
		}
		known[key] = f
		n += sound(t, kid, l, known)
	}
	delete(known, key)
	return n
}

// oneTest: is it a test, and no other one's copy?
func oneTest(t *testing.T, l []match.Pat, i int) {
	t.Helper()
	x := l[i]
	clean := match.Pat{Op: x.Op, Kids: slices.Repeat([]match.Pat{wild}, len(x.Kids))}
	switch x.Op {
	case match.Int, match.Con:
		clean.Num = x.Num
	case match.Str:
		clean.Text = x.Text
	}
	if !samePat(x, clean) || len(x.Kids) > 0 && x.Op != match.Con && x.Op != match.Tuple {
		t.Fatalf("a test %s", showPat(x))
	}
	if slices.ContainsFunc(l[:i], func(o match.Pat) bool { return atPlace(o, x) }) {
		t.Fatalf("twice: %s", showPats(l))
	}
}

// holds: do these rows have a sound tree, by which all the values go where they should, asked where they should be?
func holds(t *testing.T, l []match.Pat, vals ...api.Val) {
	t.Helper()
	x := mustTree(t, l...)
	sound(t, x, l, map[string]fact{})
	for _, v := range vals {
		n, asked := match.Run(x, v)
		want, places := walk(x, v)
		if n != firstRow(l, v) || n != want || !samePaths(asked, places) {
			t.Fatalf("%s comes to %d (%v), not %d (%v), of %s", showVal(v), n, asked, firstRow(l, v), places, showPats(l))
		}
	}
}

// walk: the way of a value through a sound tree.
func walk(x match.Tree, v api.Val) (int, [][]int) {
	var places [][]int
	for !x.Leaf {
		places = append(places, x.Path)
		part := v
		for _, i := range x.Path {
			part = part.Kids[i]
		}
		way := slices.IndexFunc(x.Tests, func(p match.Pat) bool { return matches(p, part) })
		if way < 0 {
			way = len(x.Tests)
		}
		x = x.Kids[way]
	}
	return x.Num, places
}

// dice is a row of numbers that look like chance, and are always the same.
type dice uint64

func (d *dice) below(n int) int {
	*d += 0x9E3779B97F4A7C15
	x := uint64(*d)
	x = (x ^ x>>30) * 0xBF58476D1CE4E5B9
	x = (x ^ x>>27) * 0x94D049BB133111EB
	return int((x ^ x>>31) % uint64(n))
}

// pat: some pattern, so deep at most.
func (d *dice) pat(depth int) match.Pat {
	switch d.below(10) {
	case 0, 1:
		return wild
	case 2:
		return named(string(rune('a' + d.below(26))))
	case 3:
		return num(d.below(3))
	case 4:
		return str([]string{"", "a", "b"}[d.below(3)])
	case 5:
		return unit()
	case 6:
		return con(d.below(3))
	}
	if depth == 0 {
		return wild
	}
	kids := make([]match.Pat, d.below(4))
	for i := range kids {
		kids[i] = d.pat(depth - 1)
	}
	if d.below(2) == 0 {
		return tup(kids...)
	}
	return con(d.below(3), kids...)
}

// val: some value; one that matches a pattern, but that a part of it may be another one here and there.
func (d *dice) val(p match.Pat, depth int) api.Val {
	if d.below(12) == 0 {
		p = d.pat(2)
	}
	switch p.Op {
	case match.Int:
		return vNum(p.Num)
	case match.Str:
		return vStr(p.Text)
	case match.Unit:
		return vUnit()
	case match.Con, match.Tuple:
		v := api.Val{Kind: api.Con, Num: p.Num}
		if p.Op == match.Tuple {
			v.Kind = api.Tuple
		}
		for _, kid := range p.Kids {
			v.Kids = append(v.Kids, d.val(kid, depth))
		}
		return v
	}
	if depth == 0 {
		return []api.Val{{Kind: api.Float, Text: "12345678"}, {Kind: api.Pref, Num: 1}, vNum(7)}[d.below(3)]
	}
	return d.val(d.pat(1), depth-1)
}
