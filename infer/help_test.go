package infer_test

import (
	"strings"
	"testing"

	"scriptor/api"
	"scriptor/infer"
	"scriptor/parse"
)

// lists is what most of the tests' programs have ahead, in a line of its own.
const lists = "(data list ('a) (Nil) (Cons 'a (list 'a))) (data o ('a) (None) (Some 'a)) (data two ('a 'b) (Two 'a 'b) (Swapped 'b 'a))\n"

// must: the nodes of a text that has to be a program.
func must(t *testing.T, src string) []parse.Node {
	t.Helper()
	l, at, e := parse.Program(src)
	if e != api.OK {
		t.Fatalf("%q: no program: %d at %v", src, e, at)
	}
	return l
}

// typed: are these the types of a program, each as its name, a colon and the type (of a do the type alone)?
func typed(t *testing.T, src string, want ...string) {
	t.Helper()
	b, at, e := infer.Program(must(t, src)...)
	var got []string
	for _, x := range b {
		got = append(got, strings.TrimPrefix(x.Name+": "+x.Type, ": "))
	}
	if g, w := strings.Join(got, "\n"), strings.Join(want, "\n"); e != api.OK || at != (api.Pos{}) || g != w {
		t.Errorf("%s:\n%d at %v\n%s\nnot\n%s", src, e, at, g, w)
	}
}

// marked: is a program answered so, at the place where a mark (a caret) stands in its text; at 0, 0, if there is none?
func marked(t *testing.T, want api.Errno, src string) {
	t.Helper()
	ahead, behind, ok := strings.Cut(src, "^")
	var place api.Pos
	if ok {
		place = api.Pos{Line: 1 + strings.Count(ahead, "\n"), Col: len(ahead) - strings.LastIndex(ahead, "\n")}
	}
	if b, at, e := infer.Program(must(t, ahead+behind)...); e != want || at != place || e != api.OK && b != nil {
		t.Errorf("%.300s: %d at %v, not %d at %v", src, e, at, want, place)
	}
}

// shape: trees that are as big as they are told to be: of so many parts, by the words for a part, for what has one
// part within, and for what has several.
type shape struct{ leaf, one, several string }

var (
	ofTypes    = shape{"int", "o", "tuple"}
	ofValues   = shape{"1", "Some", "tuple"}
	ofPatterns = shape{"1", "Some", "tuple"}
)

// sized: a tree (a type, or what has such a type) of so many parts.
func (s shape) sized(parts int) string {
	if parts == 1 {
		return s.leaf
	}
	if parts < 10 {
		return "(" + s.one + " " + s.sized(parts-1) + ")"
	}
	b := "(" + s.several
	left := parts - 1
	for i := range 8 {
		part := left / (8 - i)
		b += " " + s.sized(part)
		left -= part
	}
	return b + ")"
}

// dice is a row of numbers that look like chance, and are always the same.
type dice uint64

func (d *dice) below(n int) int {
	*d += 0x9E3779B97F4A7C15
	x := uint64(*d)
	x = (x ^ x>>30) * 0xBF58476D1CE4E5B9
	x = (x ^ x>>27) * 0x94D049BB133111EB
	return int((x ^ x>>31) % uint64(n))
}

func pick[T any](d *dice, l ...T) T { return l[d.below(len(l))] }
