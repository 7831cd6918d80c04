package kind_test

import (
	"slices"
	"strconv"
	"strings"
	"testing"

	"scriptor/api"
	"scriptor/kind"
)

// ty: a type as it is written here: '7 is the variable 7, int a name, (list '7) a name and its parts.
func ty(s string) kind.Type {
	words := strings.Fields(strings.NewReplacer("(", " ( ", ")", " ) ").Replace(s))
	t, rest := read(words)
	if len(rest) > 0 {
		panic("behind a type: " + s)
	}
	return t
}

func read(words []string) (kind.Type, []string) {
	word, rest := words[0], words[1:]
	if name, ok := strings.CutPrefix(word, "'"); ok {
		n, err := strconv.Atoi(name)
		if err != nil {
			panic(err)
		}
		return kind.Type{Num: n}, rest
	}
	if word != "(" {
		return kind.Type{Op: 1, Text: word}, rest
	}
	t := kind.Type{Op: 1, Text: rest[0]}
	rest = rest[1:]
	for rest[0] != ")" {
		var kid kind.Type
		kid, rest = read(rest)
		t.Kids = append(t.Kids, kid)
	}
	return t, rest[1:]
}

// tell: the other way round.
func tell(t kind.Type) string {
	s := t.Text
	if t.Op == 0 {
		s = "'" + strconv.Itoa(t.Num)
	}
	if len(t.Kids) == 0 {
		return s
	}
	for _, kid := range t.Kids {
		s += " " + tell(kid)
	}
	return "(" + s + ")"
}

// same: nothing is different, in no field.
func same(a, b kind.Type) bool {
	return a.Op == b.Op && a.Num == b.Num && a.Text == b.Text && slices.EqualFunc(a.Kids, b.Kids, same)
}

func deepCopy(t kind.Type) kind.Type {
	t.Kids = slices.Clone(t.Kids)
	for i := range t.Kids {
		t.Kids[i] = deepCopy(t.Kids[i])
	}
	return t
}

// spoil makes every part of a type another one, in its own memory.
func spoil(l []kind.Type) {
	for i := range l {
		spoil(l[i].Kids)
		l[i] = kind.Type{Op: 1, Text: "spoilt"}
	}
}

// unify: do these, one behind the other, answer so? Each line is two types with an = between, and what is answered
// (nothing: OK).
func unify(t *testing.T, s *kind.Solver, lines ...string) {
	t.Helper()
	for _, line := range lines {
		pair, answer, _ := strings.Cut(line, ":")
		a, b, _ := strings.Cut(pair, "=")
		want := map[string]api.Errno{"": api.OK, " type": api.ErrType, " big": api.ErrBig}[answer]
		if e := s.Unify(ty(a), ty(b)); e != want {
			t.Errorf("%s: %d, not %d", line, e, want)
		}
	}
}

// full: is a type this one, in full?
func full(t *testing.T, s *kind.Solver, src, want string) {
	t.Helper()
	got, e := s.Full(ty(src))
	if e != api.OK || !same(got, ty(want)) {
		t.Errorf("%s is %s, %d, not %s", src, tell(got), e, want)
	}
}

// big: has a type too many parts, in full?
func big(t *testing.T, s *kind.Solver, x kind.Type) {
	t.Helper()
	if got, e := s.Full(x); e != api.ErrBig || !same(got, kind.Type{}) {
		t.Errorf("%d, %s", e, tell(got))
	}
}

// wide is a type of so many parts, side by side; deep is one of so many in one another.
func wide(parts int) kind.Type {
	t := kind.Type{Op: 1, Text: "wide"}
	for range parts - 1 {
		t.Kids = append(t.Kids, kind.Type{Op: 1, Text: "int"})
	}
	return t
}

func deep(parts int, end kind.Type) kind.Type {
	for range parts - 1 {
		end = kind.Type{Op: 1, Text: "deep", Kids: []kind.Type{end}}
	}
	return end
}

// endless is a type that is its own part.
func endless() kind.Type {
	kids := make([]kind.Type, 2)
	kids[0] = kind.Type{Op: 1, Text: "int"}
	kids[1] = kind.Type{Op: 1, Text: "endless", Kids: kids}
	return kids[1]
}

// dice is a row of numbers that look like chance, and are always the same.
type dice uint64

func (d *dice) below(n int) int {
	*d += 0x9E3779B97F4A7C15
	x := uint64(*d)
	x = (x ^ x>>30) * 0xBF58476D1CE4E5B9
	x = (x ^ x>>27) * 0x94D049BB133111EB
	return int((x ^ x>>31) % uint64(n))
}

// some: a type of few names, of the variables 1 to vars.
func (d *dice) some(depth, vars int) kind.Type {
	if depth == 0 || d.below(4) == 0 {
		if d.below(3) > 0 {
			return kind.Type{Num: 1 + d.below(vars)}
		}
		return kind.Type{Op: 1, Text: []string{"int", "a"}[d.below(2)]}
	}
	t := kind.Type{Op: 1, Text: []string{"a", "b"}[d.below(2)]}
	for range []int{1, 2, 2, 2, 3}[d.below(5)] {
		t.Kids = append(t.Kids, d.some(depth-1, vars))
	}
	return t
}
