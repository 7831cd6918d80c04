package match

import (
	"slices"

	"scriptor/api"
)

const (
	maxBytes  = 1<<31 - 1 // of a tree: the document promises nothing beyond
	treeBytes = 88        // of a tree, of a pattern, of a number, but for what they are made of
	patBytes  = 56
	numBytes  = 8
)

// claim is what a row asks of a place: a pattern that not every value matches.
type claim struct {
	path []int
	pat  Pat
}

// row is one that may still match, and what it still asks. A row's claims are never changed: rows share them.
type row struct {
	num    int
	claims []claim
}

// test is what a pattern asks of the place itself: two are the same, or no value fits both.
type test struct {
	op, num, kids int
	text          string
}

func (p Pat) test() test {
	switch p.Op {
	case Int:
		return test{op: Int, num: p.Num}
	case Str:
		return test{op: Str, text: p.Text}
	case Con:
		return test{op: Con, num: p.Num, kids: len(p.Kids)}
	case Tuple:
		return test{op: Tuple, kids: len(p.Kids)}
	}
	return test{op: p.Op}
}

// pat: the test as a pattern, whose Kids are Any.
func (t test) pat() Pat {
	return Pat{Op: t.op, Num: t.num, Text: t.text, Kids: slices.Repeat([]Pat{{Op: Any}}, t.kids)}
}

// grower makes a tree; room is how many bytes it may still need.
type grower struct {
	room int
}

// grow: the tree of patterns.
func grow(pats []Pat) (Tree, api.Errno) {
	var rows []row
	for i, p := range pats {
		rows = append(rows, row{i, claims(nil, p)})
	}
	g := grower{maxBytes}
	t := g.tree(upToSure(rows))
	if g.room < 0 {
		return Tree{}, api.ErrBig
	}
	return t, api.OK
}

// claims: what a pattern asks of a place, in a list.
func claims(path []int, p Pat) []claim {
	if !p.asks() {
		return nil
	}
	return []claim{{path, p}}
}

// upToSure: the rows, but for those behind one that asks nothing: no value comes to them.
func upToSure(rows []row) []row {
	for i, r := range rows {
		if len(r.claims) == 0 {
			return rows[:i+1]
		}
	}
	return rows
}

// tree: of the rows that may still match.
func (g *grower) tree(rows []row) Tree {
	g.room -= treeBytes
	switch {
	case g.room < 0:
		return Tree{}
	case len(rows) == 0:
		return Tree{Leaf: true, Num: none}
	case len(rows[0].claims) == 0:
		return Tree{Leaf: true, Num: rows[0].num}
	}
	path := bestPlace(rows)
	tests, groups := split(rows, path)
	t := Tree{Path: slices.Clone(path)}
	g.room -= numBytes * len(path)
	for _, x := range tests {
		t.Tests = append(t.Tests, x.pat())
		g.room -= patBytes * (1 + x.kids)
	}
	for _, group := range groups {
		t.Kids = append(t.Kids, g.tree(group))
	}
	return t
}

// bestPlace: of the places of which the first row asks something that of which the most rows do: rows that don't ask
// there go on in every branch, so the tree stays smaller.
func bestPlace(rows []row) []int {
	first := rows[0].claims
	best, most := first[0].path, 0
	if len(first) == 1 {
		return best
	}
	for _, c := range first {
		n := 0
		for _, r := range rows {
			if r.claimAt(c.path) >= 0 {
				n++
			}
		}
		if n > most {
			best, most = c.path, n
		}
	}
	return best
}

// claimAt: which of its claims asks something of the place; -1: none.
func (r row) claimAt(path []int) int {
	return slices.IndexFunc(r.claims, func(c claim) bool { return slices.Equal(c.path, path) })
}

// split: the tests that the rows have for a place; the rows that may match behind each, and behind none of them.
func split(rows []row, path []int) ([]test, [][]row) {
	var tests []test
	numbers := map[test]int{}
	for _, r := range rows {
		if i := r.claimAt(path); i >= 0 {
			x := r.claims[i].pat.test()
			if _, ok := numbers[x]; !ok {
				numbers[x] = len(tests)
				tests = append(tests, x)
			}
		}
	}
	groups := make([][]row, len(tests)+1)
	for _, r := range rows {
		i := r.claimAt(path)
		if i < 0 {
			for k := range groups {
				groups[k] = append(groups[k], r)
			}
			continue
		}
		k := numbers[r.claims[i].pat.test()]
		groups[k] = append(groups[k], r.without(i))
	}
	for k := range groups {
		groups[k] = upToSure(groups[k])
	}
	return tests, groups
}

// without: the row, when its i-th claim's test fits: what it asks of the parts there comes in its place.
func (r row) without(i int) row {
	c := r.claims[i]
	l := slices.Clone(r.claims[:i])
	for k, kid := range c.pat.parts() {
		l = append(l, claims(append(slices.Clone(c.path), k), kid)...)
	}
	return row{r.num, append(l, r.claims[i+1:]...)}
}
