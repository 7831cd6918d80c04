package match_test

import (
	"slices"
	"testing"

	"scriptor/api"
	"scriptor/match"
)

// spoil makes every part of patterns another one, in its own memory.
func spoil(l []match.Pat) {
	for i := range l {
		spoil(l[i].Kids)
		l[i] = match.Pat{Op: 99, Num: -1, Text: "spoilt"}
	}
}

func spoilTree(x match.Tree) {
	for i := range x.Path {
		x.Path[i] = -99
	}
	spoil(x.Tests)
	for i := range x.Kids {
		spoilTree(x.Kids[i])
		x.Kids[i] = match.Tree{Num: 99}
	}
}

func spoilVal(v api.Val) {
	for i := range v.Kids {
		spoilVal(v.Kids[i])
		v.Kids[i] = api.Val{Kind: 99}
	}
}

// spare: the same list, but behind it is room for more, that nobody has to touch.
func spare[T any](l []T) []T { return append(make([]T, 0, len(l)+8), l...) }

// P15.1: an answer is new memory, and what was handed in stays as it is (Rule 4).
func TestMemory(t *testing.T) {
	some := func() []match.Pat {
		return rows(cons(named("h"), con(0)), cons(num(1), cons(num(2), wild)), tup(spare(rows(num(1), str("a"), named("x")))...), cons(num(1), cons(num(3), tup(wild, num(1)))))
	}
	l := spare(some())
	full := l[:cap(l)]
	x := mustTree(t, l...)
	want := showTree(x)
	if showPats(l) != showPats(some()) || slices.ContainsFunc(full[len(l):], func(p match.Pat) bool { return !samePat(p, match.Pat{}) }) || !samePat(l[2].Kids[:cap(l[2].Kids)][3], match.Pat{}) {
		t.Error("the rows were changed")
	}
	spoil(l)
	if showTree(x) != want {
		t.Error("a tree keeps its rows")
	}
	spoilTree(x)
	x = mustTree(t, some()...)
	if showTree(x) != want {
		t.Error("a tree keeps another one")
	}
	v := vCons(vNum(1), vCons(vNum(3), vTup(vNum(1), vNum(1))))
	n, asked := match.Run(x, v)
	for i := range asked {
		for k := range asked[i] {
			asked[i][k] = -99
		}
	}
	if showTree(x) != want || n != 3 {
		t.Error("the places are the tree's", n)
	}
	b := match.Binds(tup(named("a"), tup(named("b"), named("c"))))
	for i := range b {
		_ = append(b[i].Path, -99)
		b[i].Path[0] = -i
	}
	if b[1].Path[0] != -1 || b[1].Path[1] != 0 || b[2].Path[0] != -2 || b[2].Path[1] != 1 {
		t.Error(b)
	}
	was := showVal(v)
	part, _ := match.At(v, []int{1})
	spoilVal(part)
	if showVal(v) != was {
		t.Error("a part is the value's")
	}
	part, _ = match.At(v, []int{1})
	spoilVal(v)
	if !sameVal(part, vCons(vNum(3), vTup(vNum(1), vNum(1)))) {
		t.Error("a part stays the value's")
	}
}

// P15.1: within one tree no two lists are one.
func TestNoSharing(t *testing.T) {
	x := mustTree(t, tup(num(1), num(2)), tup(num(3), wild), tup(wild, num(2)), tup(wild, num(5)))
	var paths []*int
	var tests []*match.Pat
	var kids []*match.Tree
	var visit func(x match.Tree)
	visit = func(x match.Tree) {
		if len(x.Path) > 0 {
			paths = append(paths, &x.Path[0])
		}
		if len(x.Kids) > 0 {
			kids = append(kids, &x.Kids[0])
		}
		if len(x.Tests) > 0 {
			tests = append(tests, &x.Tests[0])
		}
		for _, p := range x.Tests {
			if len(p.Kids) > 0 {
				tests = append(tests, &p.Kids[0])
			}
		}
		for _, kid := range x.Kids {
			visit(kid)
		}
	}
	visit(x)
	if len(paths) < 3 || twice(paths) || twice(tests) || twice(kids) {
		t.Errorf("%d, %v %v %v", len(paths), twice(paths), twice(tests), twice(kids))
	}
}

func twice[T any](l []*T) bool {
	for i := range l {
		if slices.Contains(l[:i], l[i]) {
			return true
		}
	}
	return false
}

// P15.1: the same rows have the same tree (Rule 5).
func TestSameAgain(t *testing.T) {
	d := dice(5)
	for range 100 {
		l := rows(d.pat(3), d.pat(3), d.pat(3), d.pat(3))
		if showTree(mustTree(t, l...)) != showTree(mustTree(t, l...)) {
			t.Fatal(showPats(l))
		}
	}
}

// P15.1 (P1): every call ends, whatever it is given.
func TestAnything(t *testing.T) {
	kids := make([]match.Pat, 2)
	kids[0] = named("x")
	kids[1] = match.Pat{Op: match.Con, Num: 1, Kids: kids}
	endless := kids[1]
	if x, e := match.Compile(wild, endless); e != api.ErrBig && e != api.OK || e == api.ErrBig && len(x.Kids) > 0 {
		t.Error(e)
	}
	match.Binds(endless)
	vals := make([]api.Val, 1)
	vals[0] = vCon(1, vUnit())
	vals[0].Kids = vals
	match.At(vals[0], nil)
	if v, ok := match.At(vTup(vNum(7), vals[0]), []int{0}); !ok || v.Num != 7 {
		t.Error(showVal(v), ok)
	}
	holds(t, rows(con(1, con(1, con(1))), con(1, con(1, wild))), vals[0])

	ways := make([]match.Tree, 2)
	ways[0] = match.Tree{Path: []int{0}, Tests: rows(con(1, wild)), Kids: ways}
	ways[1] = ways[0]
	match.Run(ways[0], vals[0])
	match.Run(ways[0], vNum(1))
	for _, x := range []match.Tree{
		{}, {Path: []int{-1}}, {Tests: rows(num(1))}, {Tests: rows(match.Pat{Op: 99}, match.Pat{Op: -1}), Kids: make([]match.Tree, 1)}, {Tests: rows(endless), Kids: make([]match.Tree, 1)},
		{Path: []int{5, 6}, Tests: rows(wild), Kids: []match.Tree{{Leaf: true, Num: 3}}}, {Kids: make([]match.Tree, 3)}, {Leaf: true, Num: -7, Kids: ways},
	} {
		for _, v := range []api.Val{{}, vNum(1), vals[0], {Kind: -5, Kids: make([]api.Val, 6)}} {
			match.Run(x, v)
		}
	}
	match.Binds(match.Pat{Op: -5, Kids: rows(con(-1, named("x")))})
}
