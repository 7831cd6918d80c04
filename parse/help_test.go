package parse_test

import (
	"slices"
	"strconv"
	"strings"
	"testing"

	"scriptor/api"
	"scriptor/parse"
)

// pos is a place.
func pos(line, col int) api.Pos { return api.Pos{Line: line, Col: col} }

// same: are two lists of nodes the same, with their places or but for them?
func same(a, b []parse.Node, places bool) bool {
	return slices.EqualFunc(a, b, func(m, n parse.Node) bool {
		return m.Op == n.Op && (m.At == n.At || !places) && m.Text == n.Text && m.Num == n.Num && same(m.Kids, n.Kids, places)
	})
}

// must: the nodes of a text that has to be a program.
func must(t *testing.T, src string) []parse.Node {
	t.Helper()
	l, at, e := parse.Program(src)
	if e != api.OK || at != (api.Pos{}) {
		t.Fatalf("%q: %d at %v", src, e, at)
	}
	return l
}

// refused: is a text refused at that place, with nothing beside?
func refused(t *testing.T, src string, want api.Pos) {
	t.Helper()
	if l, at, e := parse.Program(src); e != api.ErrSyntax || at != want || len(l) != 0 {
		t.Errorf("%q: %d at %v, not at %v", src, e, at, want)
	}
}

// marked: is a text refused at the place where a mark (a caret) stands in it?
func marked(t *testing.T, src string) {
	t.Helper()
	ahead, behind, ok := strings.Cut(src, "^")
	if !ok {
		t.Fatalf("%q has no mark", src)
	}
	line := strings.Count(ahead, "\n")
	refused(t, ahead+behind, pos(line+1, len(ahead)-strings.LastIndex(ahead, "\n")))
}

// tell: nodes as a text: of each its name, its place (the line if it isn't the first), its text, number and parts.
func tell(l []parse.Node) string {
	var parts []string
	for _, n := range l {
		s := opName(n.Op) + "@"
		if n.At.Line != 1 {
			s += strconv.Itoa(n.At.Line) + ":"
		}
		s += strconv.Itoa(n.At.Col)
		if n.Text != "" {
			s += " " + n.Text
		}
		if n.Num != 0 {
			s += " #" + strconv.Itoa(n.Num)
		}
		if len(n.Kids) > 0 {
			s += " [" + tell(n.Kids) + "]"
		}
		parts = append(parts, s)
	}
	return strings.Join(parts, ", ")
}

func opName(op int) string {
	return map[int]string{
		parse.Int: "Int", parse.Float: "Float", parse.Str: "Str", parse.Unit: "Unit", parse.Var: "Var", parse.Con: "Con", parse.Fn: "Fn",
		parse.App: "App", parse.Let: "Let", parse.Rec: "Rec", parse.If: "If", parse.Seq: "Seq", parse.Tup: "Tup", parse.Case: "Case",
		parse.Try: "Try", parse.Raise: "Raise", parse.Trans: "Trans", parse.Arm: "Arm", parse.PAny: "PAny", parse.PVar: "PVar",
		parse.PInt: "PInt", parse.PStr: "PStr", parse.PUnit: "PUnit", parse.PCon: "PCon", parse.PTup: "PTup", parse.TVar: "TVar",
		parse.TName: "TName", parse.Data: "Data", parse.DCon: "DCon", parse.Root: "Root", parse.Def: "Def", parse.DefRec: "DefRec", parse.Do: "Do",
	}[op]
}

// many: so many of the same, a blank between.
func many(n int, s string) string { return strings.TrimSuffix(strings.Repeat(s+" ", n), " ") }

// dice is a row of numbers that look like chance, and are always the same.
type dice uint64

func (d *dice) below(n int) int {
	*d += 0x9E3779B97F4A7C15
	x := uint64(*d)
	x = (x ^ x>>30) * 0xBF58476D1CE4E5B9
	x = (x ^ x>>27) * 0x94D049BB133111EB
	return int((x ^ x>>31) % uint64(n))
}

func pick[T any](d *dice, l ...T) T { return l[d.below(len(l))] }
