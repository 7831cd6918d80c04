package compact_test

import (
	"math/rand"
	"strconv"
	"testing"

	"scriptor/api"
	"scriptor/compact"
	"scriptor/disk"
	"scriptor/graph"
	"scriptor/store"
)

const (
	crashDisk = 40
	crashLog  = 8
)

// picks is the bits of a number, as a crash takes them.
func picks(bits int) []int {
	var list []int
	for i := range 10 {
		list = append(list, bits>>i)
	}
	return list
}

// tangled is a store in whose image and log there is more than roots lead to.
func tangled(t *testing.T) (*disk.Disk, graph.Graph) {
	t.Helper()
	d, s := stored(t, crashDisk, crashLog, dir(root("a", 30), root("b", 9)), set(30, tuple(pref(20), pref(30), str(700))),
		set(20, pref(30)), set(25, str(900)), set(9, integer(9)))
	ok(t, s.Checkpoint(), s.Apply(set(20, con(1, pref(31), pref(9))), set(31, str(600)), store.Change{Id: 25, Gone: true}),
		s.Apply(set(26, pref(30))))
	return d, graphOf(t, s)
}

// comesBack checks the graph behind a crash, with power that goes in the opening, too.
func comesBack(t *testing.T, d *disk.Disk, want graph.Graph, seed int) {
	t.Helper()
	for i := range 3 {
		d.Arm((seed + i) % 3)
		if g, e := compact.Work(d, crashLog, compact.Open); e != api.ErrDown && (e != api.OK || !graph.Same(g, want)) {
			t.Fatalf("%d: %d, %s", seed, e, graph.Text(g))
		}
		d.Crash(picks(seed * (i + 3))...)
	}
	if g, e := compact.Work(d, crashLog); e != api.OK || !graph.Same(g, want) {
		t.Fatalf("%d: %d, %s", seed, e, graph.Text(g))
	}
}

// P3, P7, P9.2: the power goes at each change of all jobs, and of what waits anything may last; then in the jobs
// behind it, again and again.
func TestGraphStays(t *testing.T) {
	start, want := tangled(t)
	all := []compact.Job{compact.Compact, compact.Checkpoint, compact.Open, compact.Compact, compact.Compact}
	d := start.Copy()
	compact.Work(d, crashLog, all...)
	steps := d.Steps()
	for n := range steps + 1 {
		for bits := range 16 {
			d := start.Copy()
			d.Arm(n)
			_, e := compact.Work(d, crashLog, all...)
			if (e == api.OK) != (n == steps) || e != api.OK && e != api.ErrDown {
				t.Fatalf("%d: %d", n, e)
			}
			d.Crash(picks(bits * 73)...)
			comesBack(t, d, want, n+bits)
			again(t, d, want, n*16+bits)
		}
	}
}

// again loses power on the way, in jobs of all kinds, and at last does what is to be done.
func again(t *testing.T, d *disk.Disk, want graph.Graph, seed int) {
	t.Helper()
	r := rand.New(rand.NewSource(int64(seed)))
	for range 4 {
		var jobs []compact.Job
		for range 1 + r.Intn(3) {
			jobs = append(jobs, compact.Job(r.Intn(3)))
		}
		d.Arm(r.Intn(12))
		if g, e := compact.Work(d, crashLog, jobs...); e != api.ErrDown && (e != api.OK || !graph.Same(g, want)) {
			t.Fatalf("%d: %v: %d, %s", seed, jobs, e, graph.Text(g))
		}
		d.Crash(picks(r.Intn(1024))...)
	}
	comesBack(t, d, want, seed)
	g, e := compact.Work(d, crashLog, compact.Compact)
	if e != api.OK || !graph.Same(g, want) {
		t.Fatalf("%d: %d, %s", seed, e, graph.Text(g))
	}
	s, e := store.Open(d, crashLog)
	ok(t, e)
	isCompact(t, s, want)
}

// P7, P9.2: checkpoints, compactions and openings, in any order, change no graph; programs go on from what they left.
func TestJobsAndChanges(t *testing.T) {
	r := rand.New(rand.NewSource(14))
	for range 100 {
		d, s := stored(t, 300, 100, some(r, 1+r.Intn(20), 100)...)
		for range 12 {
			want := graphOf(t, s)
			jobs := []compact.Job{compact.Job(r.Intn(3)), compact.Job(r.Intn(3))}
			g, e := compact.Work(d, 100, jobs...)
			if e != api.OK || !graph.Same(g, want) {
				t.Fatalf("%v: %d, %s, not %s", jobs, e, graph.Text(g), graph.Text(want))
			}
			s, e = store.Open(d, 100)
			ok(t, e)
			goOn(t, r, s)
		}
	}
}

// goOn makes an object more, that names some to which roots lead, and roots that lead to some of these and it.
func goOn(t *testing.T, r *rand.Rand, s *store.Store) {
	t.Helper()
	var roots []graph.Root
	if v, e := s.Get(1); e == api.OK {
		roots, _ = graph.Roots(v)
	}
	id := max(2, s.Next())
	ids := []int{id}
	for _, r := range roots {
		ids = append(ids, r.Id)
	}
	if len(roots) > 3 {
		roots = roots[1:]
	}
	roots = append(roots, root("n"+strconv.Itoa(r.Intn(1<<30)), id))
	ok(t, s.Apply(set(id, someValue(r, 2, ids)), dir(roots...)))
}
