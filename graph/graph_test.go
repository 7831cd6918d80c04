package graph_test

import (
	"math"
	"math/rand"
	"slices"
	"strconv"
	"strings"
	"testing"

	"scriptor/api"
	"scriptor/graph"
	"scriptor/store"
)

type (
	roots = []graph.Root
	objs  = []graph.Object
	vals  = []api.Val
)

// P8.1: the document's example.
func TestExample(t *testing.T) {
	g, e := graph.Make(roots{{"b", "t", 7}, {"a", "u", 5}}, objs{{5, pref(7)}, {7, integer(1)}})
	if s := graph.Text(g); e != api.OK || s != "a:u=@1\nb:t=@2\n@1=@2\n@2=1\n" {
		t.Errorf("%d: %q", e, s)
	}
}

// P8.1: in which order objects are numbered.
func TestOrder(t *testing.T) {
	made(t, graph.Graph{}, nil)
	made(t, graph.Graph{}, nil, graph.Object{Id: 5, Val: pref(9)})
	// Those that roots lead to are ahead of all others, in the order of names, and each has one number.
	made(t, graph.Graph{Roots: roots{{"a", "t", 1}, {"b", "u", 2}, {"c", "", 1}}, Objs: vals{pref(3), pref(1), pref(2)}},
		roots{{"c", "", 20}, {"b", "u", 3}, {"a", "t", 20}},
		graph.Object{Id: 3, Val: pref(20)}, graph.Object{Id: 4, Val: pref(3)}, graph.Object{Id: 20, Val: pref(4)})
	// Then, object by object, those that it names; not as deep as there is a way.
	made(t, graph.Graph{Roots: roots{{"r", "t", 1}}, Objs: vals{tuple(pref(2), pref(3)), tuple(pref(4), pref(5)), tuple(pref(6), pref(4)), unit(), integer(9), integer(8)}},
		roots{{"r", "t", 50}}, graph.Object{Id: 8, Val: integer(8)}, graph.Object{Id: 9, Val: integer(9)}, graph.Object{Id: 11, Val: unit()},
		graph.Object{Id: 20, Val: tuple(pref(11), pref(9))}, graph.Object{Id: 19, Val: tuple(pref(8), pref(11))}, graph.Object{Id: 50, Val: tuple(pref(20), pref(19))})
	// In one value: in the order in which they stand, however deep, each when it is met first.
	made(t, graph.Graph{Roots: roots{{"r", "t", 1}}, Objs: vals{con(3, tuple(unit(), con(4, pref(2), pref(1))), pref(3), tuple(pref(2), pref(4))), str("x"), str("y"), str("z")}},
		roots{{"r", "t", maxId}}, graph.Object{Id: maxId, Val: con(3, tuple(unit(), con(4, pref(7), pref(maxId))), pref(2), tuple(pref(7), pref(1)))},
		graph.Object{Id: 1, Val: str("z")}, graph.Object{Id: 2, Val: str("y")}, graph.Object{Id: 7, Val: str("x")})
	// Old and new numbers may be the same ones, in turn.
	made(t, graph.Graph{Roots: roots{{"a", "", 1}, {"b", "", 2}, {"c", "", 3}}, Objs: vals{pref(2), pref(3), tuple(pref(1), pref(2), pref(3))}},
		roots{{"a", "", 2}, {"b", "", 3}, {"c", "", 1}}, graph.Object{Id: 2, Val: pref(3)}, graph.Object{Id: 3, Val: pref(1)}, graph.Object{Id: 1, Val: tuple(pref(2), pref(3), pref(1))})
}

// P8.1: of objects with one number the first counts; what can't be named doesn't matter.
func TestWhichObject(t *testing.T) {
	want := graph.Graph{Roots: roots{{"r", "t", 1}}, Objs: vals{pref(2), integer(2)}}
	made(t, want, roots{{"r", "t", 5}}, graph.Object{Id: 5, Val: pref(6)}, graph.Object{Id: 5, Val: pref(99)},
		graph.Object{Id: 6, Val: integer(2)}, graph.Object{Id: 6, Val: integer(3)}, graph.Object{Id: 5, Val: integer(4)})
	made(t, want, roots{{"r", "t", 5}}, graph.Object{Id: 0, Val: pref(98)}, graph.Object{Id: -1, Val: unit()}, graph.Object{Id: math.MinInt, Val: unit()},
		graph.Object{Id: maxId + 1, Val: pref(99)}, graph.Object{Id: math.MaxInt, Val: unit()}, graph.Object{Id: 5, Val: pref(6)}, graph.Object{Id: 6, Val: integer(2)})
}

// P8.1: which error is answered.
func TestErrors(t *testing.T) {
	r := roots{{"r", "t", 5}}
	refused(t, api.ErrMiss, r)
	refused(t, api.ErrMiss, r, graph.Object{Id: 6, Val: unit()})
	refused(t, api.ErrMiss, r, graph.Object{Id: 5, Val: pref(6)})
	refused(t, api.ErrMiss, r, graph.Object{Id: 5, Val: pref(6)}, graph.Object{Id: 6, Val: tuple(pref(5), pref(7))})
	refused(t, api.ErrMiss, append(r, graph.Root{Name: "s", Id: 6}), graph.Object{Id: 5, Val: unit()})
	bad := vals{{Kind: 7}, {Num: 1 << 62}, con(256), tuple(unit()), pref(0), pref(maxId + 1), str(strings.Repeat("s", api.MaxStr+1)),
		con(1, con(1, pref(0))), endless(), endlessDir(), wide(900), sized(t, api.MaxValue+1)}
	for i, v := range bad {
		// Whether it is met or not, and though something else is missing.
		refused(t, api.ErrForm, nil, graph.Object{Id: 9, Val: v})
		refused(t, api.ErrForm, r, graph.Object{Id: 5, Val: v})
		refused(t, api.ErrForm, r, graph.Object{Id: 5, Val: unit()}, graph.Object{Id: 5, Val: v})
		refused(t, api.ErrForm, r, graph.Object{Id: 5, Val: pref(77)}, graph.Object{Id: -i, Val: v})
		refused(t, api.ErrBig, manyRoots(api.MaxRoots+1), graph.Object{Id: 5, Val: v})
		refused(t, api.ErrForm, append(r, r[0]), graph.Object{Id: 5, Val: v})
	}
	wide := manyRoots(api.MaxRoots)
	for i := range wide {
		wide[i].Type = strings.Repeat("t", 200)
	}
	refused(t, api.ErrBig, wide)
	refused(t, api.ErrBig, wide, graph.Object{Id: 5, Val: api.Val{Kind: 7}})
	made(t, graph.Graph{Roots: roots{{"r", "t", 1}}, Objs: vals{sized(t, api.MaxValue)}}, r, graph.Object{Id: 5, Val: sized(t, api.MaxValue)})
}

// P8.1: a value whose new numbers need more bytes than an object has is in a graph nevertheless.
func TestGrown(t *testing.T) {
	var l objs
	var all vals
	for i := range 70 {
		all = append(all, pref(i+2))
		l = append(l, graph.Object{Id: i + 100, Val: integer(i)})
	}
	var parts vals
	for len(all) > 0 {
		parts = append(parts, tuple(all[:7]...))
		all = all[7:]
	}
	// The last one that the first object names is the big one's own, by a number of one byte.
	news := map[int]int{}
	for i := range 70 {
		news[i+2] = i + 100
	}
	news[71] = 3
	first := anew(con(0, con(0, parts[:5]...), con(0, parts[5:]...)), news)
	l = append(l, graph.Object{Id: 200, Val: first}, graph.Object{Id: 201, Val: sized(t, api.MaxValue, pref(3))}, graph.Object{Id: 3, Val: unit()})
	rs := roots{{"a", "", 200}, {"b", "", 201}}
	g, e := graph.Make(rs, l)
	if e != api.OK || !same(g, byRule(rs, l)) || g.Objs[1].Kids[4].Num != 72 {
		t.Errorf("%d: %v", e, g)
	}
	if !graph.Same(g, byRule(rs, l)) {
		t.Error("not the same")
	}
}

// P8.1, P8.2: graphs of all kinds; other numbers, another order, and objects that no root leads to change nothing.
func TestNumbersAreNothing(t *testing.T) {
	r := rand.New(rand.NewSource(9))
	for range 3000 {
		rs, l := some(r)
		want := byRule(rs, l)
		made(t, want, rs, l...)
		news := map[int]int{}
		for _, o := range l {
			news[o.Id] = 1 + r.Intn(1<<20)<<20 + len(news)
		}
		var others objs
		for _, o := range l {
			others = append(others, graph.Object{Id: news[o.Id], Val: anew(o.Val, news)})
		}
		for range r.Intn(5) {
			others = append(others, graph.Object{Id: maxId - r.Intn(1000), Val: someValue(r, 2, []int{news[l[0].Id], 1 << 39, maxId})})
		}
		rs = slices.Clone(rs)
		for i := range rs {
			rs[i].Id = news[rs[i].Id]
		}
		r.Shuffle(len(rs), func(i, j int) { rs[i], rs[j] = rs[j], rs[i] })
		r.Shuffle(len(others), func(i, j int) { others[i], others[j] = others[j], others[i] })
		made(t, want, rs, others...)
	}
}

// P8.1: what is the same, and what isn't.
func TestSame(t *testing.T) {
	all := []graph.Graph{
		{}, {Roots: roots{{"a", "t", 1}}}, {Roots: roots{{"b", "t", 1}}}, {Roots: roots{{"a", "u", 1}}}, {Roots: roots{{"a", "t", 2}}},
		{Roots: roots{{"a", "t", 1}, {"b", "t", 1}}}, {Roots: roots{{"b", "t", 1}, {"a", "t", 1}}}, {Objs: vals{unit()}}, {Objs: vals{integer(1)}},
		{Objs: vals{integer(1), unit()}}, {Objs: vals{unit(), integer(1)}}, {Objs: vals{tuple(unit(), pref(1))}}, {Objs: vals{tuple(unit(), pref(2))}},
		{Roots: roots{{"a", "t", 1}}, Objs: vals{unit()}}, {Objs: vals{{Kind: 9}}}, {Objs: vals{{Kind: 9, Text: "x"}}}, {Roots: roots{{}}}, {Objs: vals{str("")}},
	}
	for i, a := range all {
		for j, b := range all {
			b = graph.Graph{Roots: slices.Clone(b.Roots), Objs: slices.Clone(b.Objs)}
			for k := range b.Objs {
				b.Objs[k] = deepCopy(b.Objs[k])
			}
			if graph.Same(a, b) != (i == j) {
				t.Errorf("%d and %d", i, j)
			}
		}
	}
	// Nil and empty lists are one.
	if !graph.Same(graph.Graph{}, graph.Graph{Roots: roots{}, Objs: vals{}}) {
		t.Error("empty lists")
	}
	no := graph.Graph{Objs: vals{endless()}}
	if graph.Same(no, graph.Graph{Objs: vals{unit()}}) {
		t.Error("one without an end is another one")
	}
	graph.Same(no, no)
}

// P8.1: graphs as people read them.
func TestText(t *testing.T) {
	check := func(want string, g graph.Graph) {
		t.Helper()
		if s := graph.Text(g); s != want {
			t.Errorf("%q, not %q", s, want)
		}
	}
	check("", graph.Graph{})
	check("b:=@12\na\n:(ref int)=@-7\n:=@0\n", graph.Graph{Roots: roots{{"b", "", 12}, {"a\n", "(ref int)", -7}, {}}})
	check("@1=()\n@2=C0\n@3=C5(@9,(\"a\\\"\\x0a\",-4))\n", graph.Graph{Objs: vals{unit(), con(0), con(5, pref(9), tuple(str("a\"\n"), integer(-4)))}})
	var want strings.Builder
	g := graph.Graph{Roots: roots{{"r", "t", maxId}}}
	want.WriteString("r:t=@1099511627776\n")
	for i := 1; i <= 12; i++ {
		g.Objs = append(g.Objs, unit())
		want.WriteString("@" + strconv.Itoa(i) + "=()\n")
	}
	check(want.String(), g)
	// Of a value that isn't in form there is some text, and of the others theirs.
	s := graph.Text(graph.Graph{Objs: vals{endless(), unit(), {Kind: 9}}})
	if !strings.HasPrefix(s, "@1=") || !strings.Contains(s, "\n@2=()\n") {
		t.Errorf("%q", s)
	}
}

// P8.1: graphs of stores, in which the directory counts as no object.
func TestOf(t *testing.T) {
	check := func(want graph.Graph, error api.Errno, l ...store.Change) {
		t.Helper()
		s := stored(t, l...)
		next, size := s.Next(), s.Size()
		g, e := graph.Of(s)
		if e != error || !same(g, want) || e != api.OK && !nothing(g) {
			t.Errorf("%d, %v, not %d, %v", e, g, error, want)
		}
		if s.Next() != next || s.Size() != size {
			t.Error("the store is another one")
		}
	}
	for _, s := range []*store.Store{nil, {}} {
		if g, e := graph.Of(s); e != api.ErrArg || !nothing(g) {
			t.Errorf("no store: %d, %v", e, g)
		}
	}
	rs := func(id int) roots { return roots{{"r", "t", id}} }
	none := graph.Graph{}
	check(none, api.OK)
	check(none, api.OK, set(5, pref(9)), set(2, unit()))
	check(none, api.OK, set(1, con(0)), set(5, pref(9)))
	check(none, api.ErrForm, set(1, integer(5)))
	check(none, api.ErrForm, set(1, con(0, unit())), set(2, unit()))
	check(none, api.ErrForm, set(1, dirOf(graph.Root{Name: "b", Id: 2}, graph.Root{Name: "a", Id: 2})), set(2, unit()))
	check(none, api.ErrForm, set(1, dirOf(graph.Root{Name: "a", Id: 2}, graph.Root{Name: "a", Id: 3})), set(2, unit()), set(3, unit()))
	check(graph.Graph{Roots: rs(1), Objs: vals{tuple(pref(2), pref(1)), pref(1)}}, api.OK,
		set(1, dirOf(rs(30)...)), set(30, tuple(pref(20), pref(30))), set(20, pref(30)), set(25, tuple(pref(20), pref(77))))
	check(none, api.ErrMiss, set(1, dirOf(rs(30)...)))
	check(none, api.ErrMiss, set(1, dirOf(rs(30)...)), set(30, pref(31)))
	// What leads to the directory leads to nothing that is there.
	check(none, api.ErrMiss, set(1, dirOf(rs(1)...)))
	check(none, api.ErrMiss, set(1, dirOf(rs(2)...)), set(2, tuple(pref(2), pref(1))))
	check(graph.Graph{Roots: rs(1), Objs: vals{unit()}}, api.OK, set(1, dirOf(rs(2)...)), set(2, unit()), set(3, pref(1)))
	all := manyRoots(api.MaxRoots)
	for i := range all {
		all[i].Id = 2
	}
	want := graph.Graph{Roots: slices.Clone(all), Objs: vals{unit()}}
	for i := range want.Roots {
		want.Roots[i].Id = 1
	}
	check(want, api.OK, set(1, dirOf(all...)), set(2, unit()))
}

// P8.1, P8.2: a store's graph is that of its objects, whatever was done to it.
func TestOfAnything(t *testing.T) {
	r := rand.New(rand.NewSource(10))
	for range 300 {
		rs, l := some(r)
		dir, _ := graph.Dir(rs...)
		changes := []store.Change{set(1, dir)}
		for _, o := range l {
			changes = append(changes, set(o.Id, o.Val))
		}
		s := stored(t, changes...)
		if r.Intn(2) > 0 {
			s.Checkpoint()
		}
		if g, e := graph.Of(s); e != api.OK || !same(g, byRule(rs, l)) {
			t.Fatalf("%d: %v, not %v", e, g, byRule(rs, l))
		}
	}
}

// P8.3: what is handed in stays as it is, its spare room too, and isn't kept.
func TestHandedIn(t *testing.T) {
	rs := append(make(roots, 0, 4), graph.Root{Name: "b", Type: "t", Id: 7}, graph.Root{Name: "a", Type: "t", Id: 5})
	spare := rs[:4]
	spare[2], spare[3] = graph.Root{Name: "spare", Id: -3}, graph.Root{Name: "room", Id: -4}
	l := append(make(objs, 0, 4), graph.Object{Id: 5, Val: tuple(pref(7), con(3, pref(5), str("x")))}, graph.Object{Id: 7, Val: con(1, unit())})
	l[:4][3].Id = 44
	was := objs{{5, deepCopy(l[0].Val)}, {7, deepCopy(l[1].Val)}}
	g, e := graph.Make(rs, l)
	dir, _ := graph.Dir(rs...)
	if e != api.OK || !slices.Equal(spare, roots{{"b", "t", 7}, {"a", "t", 5}, {"spare", "", -3}, {"room", "", -4}}) || !same(graph.Graph{Objs: vals{l[0].Val, l[1].Val}}, graph.Graph{Objs: vals{was[0].Val, was[1].Val}}) || l[:4][3].Id != 44 {
		t.Errorf("%d: what is handed in is changed: %v, %v", e, spare, l)
	}
	want := byRule(rs, was)
	back, _ := graph.Roots(dir)
	for i := range l {
		spoil(&l[i].Val)
		l[i].Id = 0
	}
	clear(rs)
	spoil(&dir)
	if !same(g, want) || !slices.Equal(back, roots{{"a", "t", 5}, {"b", "t", 7}}) {
		t.Errorf("what is handed in is kept: %v, %v", g, back)
	}
}

// P8.3: an answer is memory of its own, and no two of its lists are one.
func TestAnswers(t *testing.T) {
	part := vals{pref(5), unit()}
	shared := tuple(part...)
	l := objs{{5, tuple(shared, shared, con(0, part...))}, {6, shared}}
	rs := roots{{"a", "t", 5}, {"b", "t", 6}}
	g, _ := graph.Make(rs, l)
	want := byRule(rs, l)
	spoil(&g.Objs[0].Kids[0])
	if part[1].Kind != api.Unit || g.Objs[0].Kids[1].Kids[1].Kind != api.Unit || g.Objs[0].Kids[2].Kids[1].Kind != api.Unit || g.Objs[1].Kids[1].Kind != api.Unit {
		t.Error("lists are shared")
	}
	spoilt(g)
	made(t, want, rs, l...)
	dir, _ := graph.Dir(rs...)
	s := stored(t, set(1, dir), set(5, l[0].Val), set(6, l[1].Val))
	for range 2 {
		g, e := graph.Of(s)
		if e != api.OK || !same(g, want) {
			t.Errorf("%d: %v", e, g)
		}
		spoilt(g)
	}
	again, _ := graph.Roots(dir)
	again[0].Name = "spoilt"
	isDir(t, dir, rs...)
}
