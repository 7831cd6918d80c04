package graph_test

import (
	"math/rand"
	"reflect"
	"slices"
	"strings"
	"testing"

	"scriptor/api"
	"scriptor/disk"
	"scriptor/graph"
	"scriptor/store"
	"scriptor/val"
)

const maxId = 1 << 40

func integer(n int) api.Val { return api.Val{Kind: api.Int, Num: n} }

func str(s string) api.Val { return api.Val{Kind: api.Str, Text: s} }

func con(n int, kids ...api.Val) api.Val { return api.Val{Kind: api.Con, Num: n, Kids: kids} }

func tuple(kids ...api.Val) api.Val { return api.Val{Kind: api.Tuple, Kids: kids} }

func pref(n int) api.Val { return api.Val{Kind: api.Pref, Num: n} }

func unit() api.Val { return api.Val{Kind: api.Unit} }

// entry is a root's part of a directory.
func entry(r graph.Root) api.Val { return tuple(str(r.Name), str(r.Type), pref(r.Id)) }

// dirOf is a directory of roots as they stand, as the document says it.
func dirOf(l ...graph.Root) api.Val {
	v := con(0)
	for _, r := range slices.Backward(l) {
		v = con(1, entry(r), v)
	}
	return v
}

// sized is a value of so many bytes, from a thousand on, with these parts behind four texts.
func sized(t *testing.T, size int, parts ...api.Val) api.Val {
	t.Helper()
	b, _ := val.Encode(tuple(append([]api.Val{unit(), unit()}, parts...)...))
	left := size - (len(b) - 2)
	var kids []api.Val
	for i := range 4 {
		// A text of 64 to 4096 bytes has three bytes ahead.
		part := left / (4 - i)
		kids = append(kids, str(strings.Repeat("s", part-3)))
		left -= part
	}
	v := tuple(append(kids, parts...)...)
	if b, e := val.Encode(v); len(b) != size && e != api.ErrBig || (e == api.ErrBig) != (size > api.MaxValue) {
		t.Fatalf("%d bytes, not %d: %d", len(b), size, e)
	}
	return v
}

// manyRoots is roots whose names rise.
func manyRoots(count int) []graph.Root {
	var l []graph.Root
	for i := range count {
		l = append(l, graph.Root{Name: string([]byte{byte(i), byte(i)}), Type: "t", Id: i + 1})
	}
	return l
}

// endless is a value that is its own part.
func endless() api.Val {
	kids := make([]api.Val, 2)
	kids[0], kids[1] = con(1, kids...), con(1, kids...)
	kids[0].Kids, kids[1].Kids = kids, kids
	return kids[0]
}

// wide is a value of two parts that are one, so deep that nobody can go through all of them.
func wide(depth int) api.Val {
	v := pref(1)
	for range depth {
		v = tuple(v, v)
	}
	return v
}

// endlessDir is a directory whose others are itself.
func endlessDir() api.Val {
	kids := []api.Val{entry(graph.Root{Name: "a", Type: "t", Id: 1}), con(1)}
	kids[1].Kids = kids
	return kids[1]
}

// same: are two graphs the same? Nil and empty lists are one.
func same(a, b graph.Graph) bool {
	if len(a.Roots) != len(b.Roots) || len(a.Objs) != len(b.Objs) {
		return false
	}
	for i, r := range a.Roots {
		if r != b.Roots[i] {
			return false
		}
	}
	for i, v := range a.Objs {
		if !val.Same(v, b.Objs[i]) {
			return false
		}
	}
	return true
}

func nothing(g graph.Graph) bool { return g.Roots == nil && g.Objs == nil }

// refused checks that Make answers an error, and nothing else.
func refused(t *testing.T, want api.Errno, roots []graph.Root, objs ...graph.Object) {
	t.Helper()
	if g, e := graph.Make(roots, objs); e != want || !nothing(g) {
		t.Errorf("%d, not %d: %v", e, want, g)
	}
}

// made checks what Make answers.
func made(t *testing.T, want graph.Graph, roots []graph.Root, objs ...graph.Object) {
	t.Helper()
	if g, e := graph.Make(roots, objs); e != api.OK || !same(g, want) {
		t.Errorf("%d: %v, not %v", e, g, want)
	}
}

// stored is a store that has these.
func stored(t *testing.T, l ...store.Change) *store.Store {
	t.Helper()
	d, _ := disk.New(400)
	store.Format(d, 150)
	s, e := store.Open(d, 150)
	if e == api.OK {
		e = s.Apply(l...)
	}
	if e != api.OK {
		t.Fatalf("no store: %d", e)
	}
	return s
}

func set(id int, v api.Val) store.Change { return store.Change{Id: id, Val: v} }

// someValue is a value that names some of these objects.
func someValue(r *rand.Rand, depth int, ids []int) api.Val {
	switch n := r.Intn(8); {
	case n < 3 && len(ids) > 0:
		return pref(ids[r.Intn(len(ids))])
	case n == 3 || depth == 0:
		return integer(r.Intn(1000) - 500)
	case n == 4:
		return str(strings.Repeat("x", r.Intn(20)))
	case n == 5:
		return unit()
	case n == 6:
		var kids []api.Val
		for range r.Intn(api.MaxArgs + 1) {
			kids = append(kids, someValue(r, depth-1, ids))
		}
		return con(r.Intn(256), kids...)
	default:
		kids := []api.Val{someValue(r, depth-1, ids), someValue(r, depth-1, ids)}
		for range r.Intn(api.MaxArgs - 1) {
			kids = append(kids, someValue(r, depth-1, ids))
		}
		return tuple(kids...)
	}
}

// some is roots and objects; each object is there once.
func some(r *rand.Rand) ([]graph.Root, []graph.Object) {
	ids := make([]int, 1+r.Intn(40))
	for i, n := range r.Perm(200)[:len(ids)] {
		ids[i] = n + 2
	}
	var objs []graph.Object
	for _, id := range ids {
		objs = append(objs, graph.Object{Id: id, Val: someValue(r, 3, ids)})
	}
	var roots []graph.Root
	for _, n := range r.Perm(30)[:r.Intn(6)] {
		roots = append(roots, graph.Root{Name: strings.Repeat("n", n+1), Type: strings.Repeat("t", n), Id: ids[r.Intn(len(ids))]})
	}
	return roots, objs
}

// anew is a value whose objects have other numbers.
func anew(v api.Val, news map[int]int) api.Val {
	if v.Kind == api.Pref {
		v.Num = news[v.Num]
	}
	var kids []api.Val
	for _, kid := range v.Kids {
		kids = append(kids, anew(kid, news))
	}
	v.Kids = kids
	return v
}

// named is the objects that a value names, in the order in which they stand.
func named(v api.Val) []int {
	var l []int
	if v.Kind == api.Pref {
		l = []int{v.Num}
	}
	for _, kid := range v.Kids {
		l = append(l, named(kid)...)
	}
	return l
}

// byRule is a graph as the document says it: of roots by their names, wave behind wave.
func byRule(roots []graph.Root, objs []graph.Object) graph.Graph {
	vals := map[int]api.Val{}
	for _, o := range slices.Backward(objs) {
		vals[o.Id] = o.Val
	}
	roots = slices.Clone(roots)
	slices.SortFunc(roots, func(a, b graph.Root) int { return strings.Compare(a.Name, b.Name) })
	var wave, order []int
	for _, r := range roots {
		wave = append(wave, r.Id)
	}
	news := map[int]int{}
	for len(wave) > 0 {
		var behind []int
		for _, id := range wave {
			if news[id] == 0 {
				order = append(order, id)
				news[id] = len(order)
				behind = append(behind, named(vals[id])...)
			}
		}
		wave = behind
	}
	g := graph.Graph{Roots: roots}
	for i := range roots {
		roots[i].Id = news[roots[i].Id]
	}
	for _, id := range order {
		g.Objs = append(g.Objs, anew(vals[id], news))
	}
	return g
}

// deepCopy is the same all the way down, in memory of its own.
func deepCopy(v api.Val) api.Val {
	kids := make([]api.Val, len(v.Kids))
	for i, kid := range v.Kids {
		kids[i] = deepCopy(kid)
	}
	v.Kids = kids
	return v
}

// spoil changes all that can be changed in a value.
func spoil(v *api.Val) {
	for i := range v.Kids {
		spoil(&v.Kids[i])
	}
	*v = api.Val{Kind: 77, Num: -1, Text: "spoilt"}
}

// spoilt changes all of a graph.
func spoilt(g graph.Graph) {
	for i := range g.Roots {
		g.Roots[i] = graph.Root{Name: "spoilt", Id: -5}
	}
	for i := range g.Objs {
		spoil(&g.Objs[i])
	}
}

func equal(a, b any) bool { return reflect.DeepEqual(a, b) }
