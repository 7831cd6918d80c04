package compact_test

import (
	"bytes"
	"math"
	"math/rand"
	"testing"

	"scriptor/api"
	"scriptor/compact"
	"scriptor/disk"
	"scriptor/graph"
	"scriptor/store"
)

// P9.1, P9.3: the document's example; no roots, with a directory and without.
func TestExample(t *testing.T) {
	for _, l := range [][]store.Change{{set(5, unit())}, {dir(), set(5, unit())}, {dir(), set(5, pref(77))}, nil} {
		d, s := stored(t, 60, 20, l...)
		for range 2 {
			ok(t, compact.Run(s))
			holds(t, s, 1)
			if s.Size() != 2 || compact.Size(graph.Graph{}) != 2 {
				t.Errorf("%d bytes, %d of none", s.Size(), compact.Size(graph.Graph{}))
			}
		}
		s, e := store.Open(d, 20)
		ok(t, e)
		holds(t, s, 1)
	}
}

// P9.1, P9.3: which objects are there behind a Run, by which numbers; another one changes nothing of these.
func TestRun(t *testing.T) {
	d, s := stored(t, 60, 20, dir(root("b", 7), root("a", 30)), set(30, tuple(pref(20), pref(30), pref(21))), set(20, con(4, pref(21))),
		set(21, integer(-1)), set(7, pref(20)), set(8, pref(7)), set(9, pref(1)), set(2, pref(3)))
	want := []store.Change{dir(root("a", 2), root("b", 3)), set(2, tuple(pref(4), pref(2), pref(5))), set(3, pref(4)), set(4, con(4, pref(5))), set(5, integer(-1))}
	g := graphOf(t, s)
	for range 2 {
		ok(t, compact.Run(s))
		holds(t, s, 6, want...)
		isCompact(t, s, g)
	}
	for range 2 {
		s, e := store.Open(d, 20)
		ok(t, e)
		holds(t, s, 6, want...)
		h, e := compact.Work(d, 20, compact.Compact)
		if e != api.OK || !graph.Same(g, h) {
			t.Errorf("%d: %s", e, graph.Text(h))
		}
	}
	// What is new behind it goes on from there.
	ok(t, s.Apply(set(s.Next(), pref(2))))
	if s.Next() != 7 || compact.Run(s) != api.OK {
		t.Error(s.Next())
	}
	holds(t, s, 6, want...)
}

// P7, P9.2, P9.3: stores of all kinds, and numbers of one byte to three.
func TestRunAnything(t *testing.T) {
	r := rand.New(rand.NewSource(12))
	for i := range 400 {
		count := 1 + r.Intn(30)
		if i%4 == 0 {
			count = 60 + r.Intn(100)
		}
		d, s := stored(t, 700, 300, some(r, count, []int{200, 100000, 1 << 30}[i%3])...)
		g := graphOf(t, s)
		ok(t, compact.Run(s))
		isCompact(t, s, g)
		s, e := store.Open(d, 300)
		ok(t, e)
		isCompact(t, s, g)
		ok(t, compact.Run(s), s.Checkpoint())
		isCompact(t, s, g)
	}
}

// P9.1: as many roots as there may be.
func TestManyRoots(t *testing.T) {
	var roots, want []graph.Root
	l := []store.Change{{}}
	for i := range api.MaxRoots {
		name := string([]byte{'a', byte(i)})
		roots = append(roots, root(name, 1000-i))
		want = append(want, root(name, i+2))
		l = append(l, set(1000-i, integer(i)))
	}
	l[0] = dir(roots...)
	_, s := stored(t, 300, 100, l...)
	g := graphOf(t, s)
	ok(t, compact.Run(s))
	isCompact(t, s, g)
	l[0] = dir(want...)
	for i := range api.MaxRoots {
		l[i+1].Id = i + 2
	}
	holds(t, s, api.MaxRoots+2, l...)
}

// P1, P9.1: no store, and stores that have no graph.
func TestNoGraph(t *testing.T) {
	if compact.Run(nil) != api.ErrArg || compact.Run(&store.Store{}) != api.ErrArg {
		t.Error("no store is compacted")
	}
	refuse := func(want api.Errno, l ...store.Change) {
		t.Helper()
		d, s := stored(t, 60, 20, l...)
		refused(t, want, d, 20, s)
	}
	refuse(api.ErrForm, set(1, integer(1)), set(2, unit()))
	refuse(api.ErrMiss, dir(root("r", 2)))
	refuse(api.ErrMiss, dir(root("r", 1)))
	refuse(api.ErrMiss, dir(root("r", 2)), set(2, pref(3)))
	refuse(api.ErrMiss, dir(root("r", 2)), set(2, pref(1)))
}

// P9.1: a value that has too many bytes by its new numbers; all stays as it was.
func TestGrownValue(t *testing.T) {
	// The 62nd object that "a" names is the 64th: a number of two bytes.
	grown := func(bytes, named int) (*disk.Disk, *store.Store) {
		l := []store.Change{dir(root("a", 3), root("b", 4)), set(4, sized(t, bytes, pref(2))), set(2, unit())}
		for n := range named - 1 {
			l = append(l, set(n+10, integer(n)))
		}
		l = append(l, set(3, list(append(prefs(10, named+8), pref(2))...)))
		return stored(t, 200, 60, l...)
	}
	for _, c := range [][2]int{{api.MaxValue, 60}, {api.MaxValue - 1, 61}, {api.MaxValue - 1, 62}, {api.MaxValue - 1, 90}} {
		d, s := grown(c[0], c[1])
		g := graphOf(t, s)
		ok(t, compact.Run(s))
		isCompact(t, s, g)
		s, e := store.Open(d, 60)
		ok(t, e)
		isCompact(t, s, g)
	}
	// 61 named ones behind two that roots lead to are a graph's 3 to 63, and a store's 4 to 64; with one more the
	// graph's own number has grown, too.
	for _, named := range []int{61, 62, 90} {
		d, s := grown(api.MaxValue, named)
		g := graphOf(t, s)
		refused(t, api.ErrBig, d, 60, s)
		if h := graphOf(t, s); !graph.Same(g, h) || compact.Size(g) != 0 {
			t.Errorf("the graph is another one; %d bytes", compact.Size(g))
		}
	}
}

// P9.1: a directory that has too many bytes by its new numbers; all stays as it was.
func TestGrownDirectory(t *testing.T) {
	// 37 roots lead to object 2: to number 65, behind those of the other roots. So they have 37 bytes more; of the
	// others two have numbers of two bytes, and one behind it.
	grown := func(size int) (*disk.Disk, *store.Store) {
		var roots []graph.Root
		for i := range api.MaxRoots {
			roots = append(roots, root(string([]byte{'a', byte(i)}), 2))
			if i < 63 {
				roots[i].Id = i + 3
			}
			roots[i].Type = string(bytes.Repeat([]byte{'t'}, 145))
		}
		v := dir(roots...).Val
		roots[50].Type += string(bytes.Repeat([]byte{'u'}, size-len(told(v))))
		l := []store.Change{dir(roots...)}
		for n := range 64 {
			l = append(l, set(n+2, unit()))
		}
		return stored(t, 200, 60, l...)
	}
	d, s := grown(api.MaxValue - 36)
	g := graphOf(t, s)
	ok(t, compact.Run(s))
	isCompact(t, s, g)
	s, e := store.Open(d, 60)
	ok(t, e)
	isCompact(t, s, g)
	for size := api.MaxValue - 35; size <= api.MaxValue; size += 7 {
		d, s := grown(size)
		g := graphOf(t, s)
		refused(t, api.ErrBig, d, 60, s)
		if compact.Size(g) != 0 {
			t.Errorf("%d bytes", compact.Size(g))
		}
	}
}

// P9.1: an image that has more bytes by its new numbers than there is room for; all stays as it was.
func TestNoRoom(t *testing.T) {
	const log = 20
	// Object 2 is named six times: by number 75, behind all others. So these have six bytes more, and of the others
	// one that was 64 has one less.
	full := func(fill int) (*disk.Disk, *store.Store) {
		names := tuple(pref(2), pref(2), pref(2), pref(2), pref(2))
		l := []store.Change{dir(root("a", 3), root("b", 4), root("c", 5)), set(2, unit()), set(4, names), set(5, str(fill))}
		for n := range 70 {
			l = append(l, set(n+6, integer(n)))
		}
		return stored(t, 2+log+2*3, log, append(l, set(3, list(append(prefs(6, 75), pref(2))...)))...)
	}
	const grows = 5
	_, s := full(100)
	most := 100 + s.Room() - s.Size()
	_, s = full(most - grows)
	g := graphOf(t, s)
	ok(t, compact.Run(s))
	isCompact(t, s, g)
	if s.Size() != s.Room() {
		t.Errorf("%d bytes in %d", s.Size(), s.Room())
	}
	for fill := most - grows + 1; fill <= most; fill++ {
		d, s := full(fill)
		refused(t, api.ErrFull, d, log, s)
	}
}

// P9.1: where a value is too big, and the image, too, the value is told.
func TestWhichIsAhead(t *testing.T) {
	const log = 60
	full := func(fill int) (*disk.Disk, *store.Store) {
		l := []store.Change{dir(root("a", 3), root("b", 4), root("c", 5)), set(4, sized(t, api.MaxValue, pref(2))), set(2, unit()), set(5, str(fill))}
		for n := range 60 {
			l = append(l, set(n+6, unit()))
		}
		return stored(t, 2+log+2*35, log, append(l, set(3, list(append(prefs(6, 65), pref(2))...)))...)
	}
	_, s := full(100)
	d, s := full(100 + s.Room() - s.Size())
	if s.Size() != s.Room() {
		t.Fatalf("%d bytes in %d", s.Size(), s.Room())
	}
	refused(t, api.ErrBig, d, log, s)
}

// P9.1: how many bytes a graph has, as the document counts them.
func TestSize(t *testing.T) {
	check := func(want int, g graph.Graph) {
		t.Helper()
		if n := compact.Size(g); n != want {
			t.Errorf("%d bytes, not %d: %s", n, want, graph.Text(g))
		}
	}
	byRule := func(next int, l ...store.Change) int {
		b := nums(next, len(l))
		for _, c := range l {
			v := told(c.Val)
			b = append(append(b, nums(c.Id, len(v))...), v...)
		}
		return len(b)
	}
	check(2, graph.Graph{})
	check(2, graph.Graph{Roots: []graph.Root{}, Objs: []api.Val{}})
	for _, count := range []int{1, 60, 61, 62, 63, 64, 65, 8188, 8189, 8190, 8191, 8192} {
		g := graph.Graph{Roots: []graph.Root{root("r", 1)}}
		l := []store.Change{dir(root("r", 2))}
		for n := 1; n < count; n++ {
			g.Objs = append(g.Objs, tuple(pref(n+1), pref(1), str(n%70)))
			l = append(l, set(n+1, tuple(pref(n+2), pref(2), str(n%70))))
		}
		g.Objs = append(g.Objs, integer(count))
		check(byRule(count+2, append(l, set(count+1, integer(count)))...), g)
	}
}

// endless is a value that is its own part.
func endless() api.Val {
	kids := make([]api.Val, 2)
	kids[0], kids[1] = con(1, kids...), con(1, kids...)
	kids[0].Kids, kids[1].Kids = kids, kids
	return kids[0]
}

// wide is a value of two parts that are one, so deep that nobody can go through all of them.
func wide(depth int) api.Val {
	v := pref(1)
	for range depth {
		v = tuple(v, v)
	}
	return v
}

// P1: what is no graph has some size, or none.
func TestNoGraphsSize(t *testing.T) {
	for _, v := range []api.Val{endless(), wide(900), {Kind: 7}, {Kind: -1}, pref(0), pref(-1), pref(math.MaxInt), pref(1 << 40), pref(5), tuple(pref(1)), con(256), str(5000)} {
		for _, id := range []int{1, 0, -1, 7, 1 << 40, math.MaxInt, math.MinInt} {
			g := graph.Graph{Roots: []graph.Root{root("r", id)}, Objs: []api.Val{v}}
			compact.Size(g)
			g.Roots = append(g.Roots, g.Roots[0])
			compact.Size(g)
		}
	}
	compact.Size(graph.Graph{Roots: make([]graph.Root, api.MaxRoots+1)})
}

// P9.1: jobs, one behind the other.
func TestWork(t *testing.T) {
	const log = 8
	l := []store.Change{dir(root("r", 5)), set(5, tuple(pref(9), pref(5))), set(9, str(300)), set(7, unit())}
	start, s := stored(t, 40, log, l...)
	want := graphOf(t, s)
	work := func(jobs ...compact.Job) *disk.Disk {
		t.Helper()
		d := start.Copy()
		if g, e := compact.Work(d, log, jobs...); e != api.OK || !graph.Same(g, want) {
			t.Errorf("%v: %d, %s", jobs, e, graph.Text(g))
		}
		return d
	}
	for _, jobs := range [][]compact.Job{nil, {compact.Open}, {compact.Open, 0}} {
		if d := work(jobs...); !disk.Same(d, start) || d.Steps() != 0 {
			t.Errorf("%v: the disk is another one", jobs)
		}
	}
	// What a job does is what the store, or Run, does.
	byHand := func(jobs ...compact.Job) *disk.Disk {
		d := start.Copy()
		s, _ := store.Open(d, log)
		for _, j := range jobs {
			switch j {
			case 1:
				ok(t, s.Checkpoint())
			case 2:
				ok(t, compact.Run(s))
			}
		}
		return d
	}
	for _, jobs := range [][]compact.Job{{1}, {2}, {1, 2}, {2, 1}, {1, 1}, {2, 2}, {0, 2, 0, 1, 0}, {1, 2, 1, 0, 2}} {
		a, b := work(jobs...), byHand(jobs...)
		if !disk.Same(a, b) || a.Steps() != b.Steps() {
			t.Errorf("%v: %d steps, not %d", jobs, a.Steps(), b.Steps())
		}
	}
	if disk.Same(work(1), start) || disk.Same(work(1), work(2)) || disk.Same(work(2), work(2, 1)) {
		t.Error("a job does nothing")
	}
}

// P1, P9.1: the first error, and no graph.
func TestWorkErrors(t *testing.T) {
	const log = 8
	refuse := func(want api.Errno, d *disk.Disk, log int, jobs ...compact.Job) {
		t.Helper()
		if g, e := compact.Work(d, log, jobs...); e != want || g.Roots != nil || g.Objs != nil {
			t.Errorf("%v: %d, not %d: %v", jobs, e, want, g)
		}
	}
	start, _ := stored(t, 40, log, dir(root("r", 5)), set(5, str(5)), set(6, unit()))
	for _, j := range []compact.Job{-1, 3, 7, math.MaxInt, math.MinInt} {
		for _, jobs := range [][]compact.Job{{j}, {0, j}, {j, 2, 9}} {
			d := start.Copy()
			refuse(api.ErrArg, d, log, jobs...)
			if !disk.Same(d, start) {
				t.Errorf("%v: the disk is another one", jobs)
			}
		}
		refuse(api.ErrArg, start.Copy(), log, 1, 2, j)
	}
	refuse(api.ErrArg, nil, log)
	refuse(api.ErrArg, &disk.Disk{}, log, 1, 2)
	for _, log := range []int{2, 0, -1, 37, 40, math.MaxInt, math.MinInt} {
		refuse(api.ErrArg, start.Copy(), log, 2)
	}
	blank, _ := disk.New(40)
	refuse(api.ErrRot, blank, log)
	refuse(api.ErrRot, blank, log, 7)
	// A store without a graph: each job but Compact goes on.
	noDir, _ := stored(t, 40, log, set(1, unit()))
	noObject, _ := stored(t, 40, log, dir(root("r", 5)))
	for d, want := range map[*disk.Disk]api.Errno{noDir: api.ErrForm, noObject: api.ErrMiss} {
		refuse(want, d, log)
		refuse(want, d, log, 2, 7)
		refuse(want, d, log, 1, 0)
		refuse(api.ErrArg, d, log, 1, 0, 7)
	}
	// Without power.
	for _, jobs := range [][]compact.Job{{1, 7}, {2, 7}, {0, 2, 7}} {
		d := start.Copy()
		d.Arm(0)
		refuse(api.ErrDown, d, log, jobs...)
		refuse(api.ErrDown, d, log)
		refuse(api.ErrDown, d, log, 7)
	}
}

// P9.1: what Run and Work answer when the power goes; no job is done behind that.
func TestPowerGoes(t *testing.T) {
	start, _ := stored(t, 40, 8, dir(root("r", 5)), set(5, str(5)), set(6, unit()))
	d := start.Copy()
	compact.Work(d, 8, compact.Compact)
	for n := range d.Steps() {
		d := start.Copy()
		s, _ := store.Open(d, 8)
		g := graphOf(t, s)
		d.Arm(n)
		if e := compact.Run(s); e != api.ErrDown || d.Steps() != n {
			t.Errorf("%d: %d", n, e)
		}
		if h, e := graph.Of(s); e != api.OK || !graph.Same(g, h) {
			t.Errorf("%d: %d, %s", n, e, graph.Text(h))
		}
		d = start.Copy()
		d.Arm(n)
		if h, e := compact.Work(d, 8, compact.Compact, compact.Checkpoint, 7); e != api.ErrDown || h.Roots != nil || h.Objs != nil || d.Steps() != n {
			t.Errorf("%d: %d", n, e)
		}
	}
}

// P9.1: what is handed in stays as it is.
func TestHandedIn(t *testing.T) {
	_, s := stored(t, 60, 20, dir(root("b", 7), root("a", 30)), set(30, tuple(pref(7), con(2, pref(30)))), set(7, unit()))
	g, was := graphOf(t, s), graphOf(t, s)
	jobs := append(make([]compact.Job, 0, 4), compact.Open, compact.Compact)
	jobs[:4][3] = 77
	roots := append(make([]graph.Root, 0, 4), g.Roots...)
	roots[:4][2] = root("spare", 5)
	g.Roots = roots
	n := compact.Size(g)
	if n != compact.Size(g) || !graph.Same(g, was) || roots[:4][2] != root("spare", 5) {
		t.Error("a graph is changed")
	}
	d, _ := disk.New(60)
	ok(t, store.Format(d, 20))
	compact.Work(d, 20, jobs...)
	if jobs[0] != compact.Open || jobs[1] != compact.Compact || jobs[:4][3] != 77 {
		t.Error("jobs are changed")
	}
	// A graph that is answered is nobody else's.
	ok(t, compact.Run(s))
	g = graphOf(t, s)
	g.Objs[0].Kids[0] = unit()
	g.Roots[0].Id = 9
	isCompact(t, s, was)
}
