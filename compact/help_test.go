package compact_test

import (
	"bytes"
	"encoding/binary"
	"math/rand"
	"slices"
	"strings"
	"testing"

	"scriptor/api"
	"scriptor/compact"
	"scriptor/disk"
	"scriptor/graph"
	"scriptor/store"
	"scriptor/val"
)

func integer(n int) api.Val { return api.Val{Kind: api.Int, Num: n} }

func str(n int) api.Val { return api.Val{Kind: api.Str, Text: strings.Repeat("s", n)} }

func con(n int, kids ...api.Val) api.Val { return api.Val{Kind: api.Con, Num: n, Kids: kids} }

func tuple(kids ...api.Val) api.Val { return api.Val{Kind: api.Tuple, Kids: kids} }

func pref(n int) api.Val { return api.Val{Kind: api.Pref, Num: n} }

func unit() api.Val { return api.Val{Kind: api.Unit} }

func set(id int, v api.Val) store.Change { return store.Change{Id: id, Val: v} }

func root(name string, id int) graph.Root { return graph.Root{Name: name, Type: "t", Id: id} }

// dir is the directory of roots, as a store has it.
func dir(l ...graph.Root) store.Change {
	v, _ := graph.Dir(l...)
	return set(1, v)
}

// nums is numbers as the document says them, one behind the other.
func nums(list ...int) []byte {
	var b []byte
	for _, n := range list {
		b = binary.AppendVarint(b, int64(n))
	}
	return b
}

// told is a value's bytes.
func told(v api.Val) []byte {
	b, _ := val.Encode(v)
	return b
}

// list is a value that has these as parts of parts, so many as there are.
func list(l ...api.Val) api.Val {
	for len(l) > api.MaxArgs {
		var up []api.Val
		for part := range slices.Chunk(l, api.MaxArgs) {
			up = append(up, con(0, part...))
		}
		l = up
	}
	return con(0, l...)
}

// prefs names the objects from one to another.
func prefs(from, to int) []api.Val {
	var l []api.Val
	for n := from; n <= to; n++ {
		l = append(l, pref(n))
	}
	return l
}

// sized is a value of so many bytes, with a part.
func sized(t *testing.T, bytes int, part api.Val) api.Val {
	t.Helper()
	left := bytes - 2 - len(told(part))
	var kids []api.Val
	for i := range 4 {
		kids = append(kids, str(left/(4-i)-3))
		left -= left / (4 - i)
	}
	v := tuple(append(kids, part)...)
	if len(told(v)) != bytes {
		t.Fatalf("%d bytes, not %d", len(told(v)), bytes)
	}
	return v
}

// ok ends the test if one of these calls didn't answer OK.
func ok(t *testing.T, all ...api.Errno) {
	t.Helper()
	for i, e := range all {
		if e != api.OK {
			t.Fatalf("call %d answers %d", i, e)
		}
	}
}

// stored is a store that has these, on a new disk.
func stored(t *testing.T, count, log int, l ...store.Change) (*disk.Disk, *store.Store) {
	t.Helper()
	d, e := disk.New(count)
	ok(t, e, store.Format(d, log))
	s, e := store.Open(d, log)
	ok(t, e, s.Apply(l...))
	return d, s
}

// holds checks what a store holds, whole.
func holds(t *testing.T, s *store.Store, next int, l ...store.Change) {
	t.Helper()
	var ids []int
	for _, c := range l {
		ids = append(ids, c.Id)
		if v, e := s.Get(c.Id); e != api.OK || !val.Same(v, c.Val) {
			t.Errorf("%d: %s, not %s: %d", c.Id, val.Text(v), val.Text(c.Val), e)
		}
	}
	if !slices.Equal(s.Ids(), ids) || s.Next() != next {
		t.Errorf("%v, next %d, not %v, next %d", s.Ids(), s.Next(), ids, next)
	}
}

// graphOf is a store's graph.
func graphOf(t *testing.T, s *store.Store) graph.Graph {
	t.Helper()
	g, e := graph.Of(s)
	ok(t, e)
	return g
}

// refused checks that Run, and Work, answer an error, and nothing is another one behind it.
func refused(t *testing.T, want api.Errno, d *disk.Disk, log int, s *store.Store) {
	t.Helper()
	image, steps, ids, next, bytesNow := d.Image(), d.Steps(), s.Ids(), s.Next(), s.Size()
	if e := compact.Run(s); e != want {
		t.Errorf("Run: %d, not %d", e, want)
	}
	g, e := compact.Work(d, log, compact.Open, compact.Compact, compact.Checkpoint, 9)
	if e != want || g.Roots != nil || g.Objs != nil {
		t.Errorf("Work: %d, not %d: %v", e, want, g)
	}
	if d.Steps() != steps || !bytes.Equal(d.Image(), image) || !slices.Equal(s.Ids(), ids) || s.Next() != next || s.Size() != bytesNow {
		t.Error("something is another one")
	}
}

// isCompact checks what there is behind a Run: g, and nothing else.
func isCompact(t *testing.T, s *store.Store, g graph.Graph) {
	t.Helper()
	if h := graphOf(t, s); !graph.Same(g, h) {
		t.Fatalf("%s, not %s", graph.Text(h), graph.Text(g))
	}
	count := 0
	if len(g.Roots) > 0 {
		count = len(g.Objs) + 1
	}
	ids := s.Ids()
	if len(ids) != count || count > 0 && (ids[0] != 1 || ids[count-1] != count) || s.Next() != count+1 || s.Size() != compact.Size(g) {
		t.Fatalf("%d objects, not %d: %v, next %d; %d bytes, not %d", len(ids), count, ids, s.Next(), s.Size(), compact.Size(g))
	}
}

// someValue names some of these objects.
func someValue(r *rand.Rand, depth int, ids []int) api.Val {
	switch n := r.Intn(7); {
	case n < 3:
		return pref(ids[r.Intn(len(ids))])
	case n == 3 || depth == 0:
		return integer(r.Intn(1000) - 500)
	case n == 4:
		return str(r.Intn(90))
	default:
		kids := []api.Val{someValue(r, depth-1, ids), someValue(r, depth-1, ids)}
		for range r.Intn(api.MaxArgs - 1) {
			kids = append(kids, someValue(r, depth-1, ids))
		}
		return tuple(kids...)
	}
}

// some is the objects of a store, from so many numbers; not all of them are led to.
func some(r *rand.Rand, count, numbers int) []store.Change {
	var ids []int
	for len(ids) < count {
		if id := 2 + r.Intn(numbers); !slices.Contains(ids, id) {
			ids = append(ids, id)
		}
	}
	var l []store.Change
	for _, id := range ids {
		l = append(l, set(id, someValue(r, 2, ids)))
	}
	var roots []graph.Root
	for i := range r.Intn(4) {
		roots = append(roots, root(string(rune('a'+i)), ids[r.Intn(count)]))
	}
	if len(roots) > 0 || r.Intn(2) > 0 {
		l = append(l, dir(roots...))
	}
	return l
}
