package graph_test

import (
	"math"
	"math/rand"
	"slices"
	"strings"
	"testing"

	"scriptor/api"
	"scriptor/graph"
	"scriptor/val"
)

// isDir checks that Dir and Roots are each other's.
func isDir(t *testing.T, want api.Val, l ...graph.Root) {
	t.Helper()
	v, e := graph.Dir(l...)
	if e != api.OK || !val.Same(v, want) {
		t.Fatalf("Dir: %d, %s, not %s", e, val.Text(v), val.Text(want))
	}
	back, e := graph.Roots(v)
	sorted := slices.SortedFunc(slices.Values(l), func(a, b graph.Root) int { return strings.Compare(a.Name, b.Name) })
	if e != api.OK || !slices.Equal(back, sorted) {
		t.Fatalf("Roots: %d, %v, not %v", e, back, sorted)
	}
}

func noDir(t *testing.T, want api.Errno, l ...graph.Root) {
	t.Helper()
	if v, e := graph.Dir(l...); e != want || !equal(v, api.Val{}) {
		t.Errorf("Dir: %d, %v, not %d", e, v, want)
	}
	refused(t, want, l)
}

func noRoots(t *testing.T, l ...api.Val) {
	t.Helper()
	for _, v := range l {
		if l, e := graph.Roots(v); l != nil || e != api.ErrForm {
			t.Errorf("Roots: %v, %d", l, e)
		}
	}
}

// P8.1: directories, of roots in whatever order.
func TestDir(t *testing.T) {
	isDir(t, con(0))
	a, b := graph.Root{Name: "a", Type: "int", Id: 7}, graph.Root{Name: "b", Id: 7}
	isDir(t, con(1, tuple(str("a"), str("int"), pref(7)), con(0)), a)
	both := con(1, entry(a), con(1, entry(b), con(0)))
	isDir(t, both, a, b)
	isDir(t, both, b, a)
	// Names rise byte by byte, whatever letters they are of.
	var l []graph.Root
	for _, name := range []string{"", "\x00", "\x00\x00", "A", "AA", "Z", "a", "aA", "aa", "ab", "b", "\x7f", "\x80", "é", "\xff", "\xff\xff"} {
		l = append(l, graph.Root{Name: name + "!", Type: name, Id: len(l) + 1})
	}
	slices.SortFunc(l, func(a, b graph.Root) int { return slices.Compare([]byte(a.Name), []byte(b.Name)) })
	want := dirOf(l...)
	for range 20 {
		rand.Shuffle(len(l), func(i, j int) { l[i], l[j] = l[j], l[i] })
		isDir(t, want, l...)
	}
}

// P8.1: what a root may be at most, and what none is.
func TestRootLimits(t *testing.T) {
	name, typ := strings.Repeat("n", api.MaxName), strings.Repeat("t", 1000)
	for _, r := range []graph.Root{{name, typ, maxId}, {"n", "", 1}, {"\x00", "\xff", 2}} {
		isDir(t, dirOf(r), r)
	}
	good := graph.Root{Name: "good", Type: "t", Id: 1}
	for _, r := range []graph.Root{{"", "t", 1}, {name + "n", "t", 1}, {"n", typ + "t", 1}, {"n", "t", 0}, {"n", "t", -1},
		{"n", "t", maxId + 1}, {"n", "t", math.MaxInt}, {"n", "t", math.MinInt}, {}} {
		noDir(t, api.ErrForm, r)
		noDir(t, api.ErrForm, good, r)
		noDir(t, api.ErrForm, r, good)
		noRoots(t, dirOf(r), dirOf(r, good), dirOf(good, r))
	}
	noDir(t, api.ErrForm, good, graph.Root{Name: "h", Id: 1}, good)
	noDir(t, api.ErrForm, good, graph.Root{Name: "good", Type: "u", Id: 2})
	noRoots(t, dirOf(good, good))
}

// P8.1: how many roots, how many bytes; which error is ahead.
func TestManyRoots(t *testing.T) {
	l := manyRoots(api.MaxRoots + 1)
	isDir(t, dirOf(l[:api.MaxRoots]...), l[:api.MaxRoots]...)
	noDir(t, api.ErrBig, l...)
	noRoots(t, dirOf(l...))
	l[3] = graph.Root{}
	noDir(t, api.ErrBig, l...)
	noDir(t, api.ErrForm, l[:api.MaxRoots]...)
	// So many bytes as an object may have, and one more.
	fits := manyRoots(30)
	for i := range fits {
		fits[i].Type = strings.Repeat("t", 500)
	}
	b, _ := val.Encode(dirOf(fits...))
	left := api.MaxValue - len(b)
	fits[0].Type += strings.Repeat("t", left/2)
	fits[7].Type += strings.Repeat("t", left-left/2)
	if b, _ := val.Encode(dirOf(fits...)); len(b) != api.MaxValue {
		t.Fatalf("%d bytes", len(b))
	}
	isDir(t, dirOf(fits...), fits...)
	fits[20].Type += "t"
	noDir(t, api.ErrBig, fits...)
	noRoots(t, dirOf(fits...))
	noDir(t, api.ErrForm, append(fits, fits[0])...)
	noDir(t, api.ErrForm, append(fits, graph.Root{Name: "zz"})...)
}

// P1, P8.1: values that are no directories.
func TestNoDirectory(t *testing.T) {
	a, b := graph.Root{Name: "a", Type: "t", Id: 5}, graph.Root{Name: "b", Type: "u", Id: 6}
	noRoots(t, integer(0), integer(1), str(""), tuple(), tuple(entry(a), con(0)), unit(), pref(1), api.Val{Kind: 7}, api.Val{Kind: -1},
		con(1), con(2), con(0, unit()), con(0, entry(a), con(0)), con(2, entry(a), con(0)), con(1, entry(a)), con(1, con(0)),
		con(1, con(0), entry(a)), con(1, entry(a), con(0), con(0)), con(1, entry(a), unit()), con(1, entry(a), con(1)),
		con(1, entry(a), con(2, entry(b), con(0))), con(1, entry(a), con(0, unit())), con(1, unit(), con(0)), dirOf(b, a),
		api.Val{Kind: api.Con, Num: 1, Text: "x", Kids: dirOf(a).Kids}, api.Val{Kind: api.Con, Text: "x"},
		con(1, con(0, entry(a).Kids...), con(0)), con(1, tuple(str("a"), str("t"), pref(5), unit()), con(0)),
		con(1, tuple(str("a"), str("t")), con(0)), con(1, tuple(str("a"), str("t"), integer(5)), con(0)),
		con(1, tuple(str("a"), api.Val{Kind: api.Float, Text: "12345678"}, pref(5)), con(0)),
		con(1, tuple(api.Val{Kind: api.Str, Text: "a", Num: 1}, str("t"), pref(5)), con(0)),
		con(1, tuple(str("a"), str("t"), api.Val{Kind: api.Pref, Num: 5, Text: "x"}), con(0)),
		con(1, tuple(str("a"), str("t"), api.Val{Kind: api.Pref, Num: 5, Kids: []api.Val{unit()}}), con(0)),
		con(1, tuple(str("a"), pref(5), str("t")), con(0)), con(1, tuple(str("a"), str("t"), pref(5), con(0))),
		endless(), endlessDir(), wide(900), con(1, entry(a), wide(900)))
	// Nil and empty lists are one.
	v := dirOf(a, b)
	v.Kids[1].Kids[1].Kids = []api.Val{}
	v.Kids[0].Kids[2].Kids = []api.Val{}
	if l, e := graph.Roots(v); e != api.OK || !slices.Equal(l, []graph.Root{a, b}) {
		t.Error(l, e)
	}
}

// anyPart changes one part of a value.
func anyPart(r *rand.Rand, v *api.Val) {
	for len(v.Kids) > 0 && r.Intn(3) > 0 {
		v = &v.Kids[r.Intn(len(v.Kids))]
	}
	switch r.Intn(7) {
	case 0:
		v.Kind = r.Intn(8)
	case 1:
		v.Num += r.Intn(5) - 2
	case 2:
		v.Text += strings.Repeat("t", r.Intn(1200))
	case 3:
		v.Text = string([]byte{byte('a' + r.Intn(4))})
	case 4:
		v.Kids = append(v.Kids, unit())
	case 5:
		v.Kids = v.Kids[:r.Intn(len(v.Kids)+1)]
	default:
		*v = deepCopy(someValue(r, 2, []int{3}))
	}
}

// P8.1: a value has roots just if it is the Dir of them.
func TestRootsOfAnything(t *testing.T) {
	r := rand.New(rand.NewSource(8))
	taken := 0
	for range 20000 {
		var l []graph.Root
		for i := range r.Intn(4) {
			l = append(l, graph.Root{Name: string([]byte{byte('a' + i)}), Type: "t", Id: 1 + r.Intn(3)})
		}
		v := dirOf(l...)
		anyPart(r, &v)
		l, e := graph.Roots(v)
		if e == api.OK {
			taken++
			isDir(t, v, l...)
		} else if e != api.ErrForm || l != nil {
			t.Fatal(l, e)
		}
	}
	if taken < 1000 || taken > 15000 {
		t.Errorf("%d of 20000 are directories", taken)
	}
}
