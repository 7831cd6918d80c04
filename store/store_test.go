package store_test

import (
	"bytes"
	"math"
	"math/rand"
	"slices"
	"testing"

	"scriptor/api"
	"scriptor/disk"
	"scriptor/store"
	"scriptor/val"
	"scriptor/wal"
)

// P7.1: the document's example.
func TestExample(t *testing.T) {
	d, s := formatted(t, 20, 8)
	ok(t, s.Apply(set(1, integer(5))))
	s = opened(t, d, 8, model{2, map[int]api.Val{1: integer(5)}})
	ok(t, s.Apply(gone(1)))
	if v, e := s.Get(1); !val.Same(v, api.Val{}) || e != api.ErrMiss || s.Next() != 2 {
		t.Errorf("%v, %d, next %d", v, e, s.Next())
	}
	opened(t, d, 8, model{next: 2})
}

// P7.1: what Format lays down, wherever, and nothing else; what lasts ahead of the heads.
func TestFormat(t *testing.T) {
	none := empty().image()
	if !bytes.Equal(none, []byte{2, 0}) {
		t.Fatalf("%x", none)
	}
	// 14 sectors: two heads, five of the log, two halves of three, and one is left over.
	d := littered(t, 14)
	rest := bytes.Clone(d.Image()[10*api.Sector:])
	ok(t, store.Format(d, 5))
	want := slices.Concat(head(1, 0, none, 1), sectors(1, nil), logHead(1), sectors(4, nil), sectors(3, none), rest)
	d.Crash()
	if !bytes.Equal(d.Image(), want) {
		t.Error("Format lays down something else")
	}
	opened(t, d, 5, empty())
	// The last barrier finds no power: the heads aren't there, all else is.
	steps := d.Steps()
	d = littered(t, 14)
	old := d.Image()[:2*api.Sector]
	d.Arm(steps - 14 - 1 - 1)
	if e := store.Format(d, 5); e != api.ErrDown {
		t.Errorf("without power: %d", e)
	}
	d.Crash()
	if !bytes.Equal(d.Image(), append(old, want[2*api.Sector:]...)) {
		t.Error("what stands ahead of the heads doesn't last")
	}
}

// P7.1: disks on which there can't be a store.
func TestNoSuchDisk(t *testing.T) {
	check := func(d *disk.Disk, log int) {
		t.Helper()
		s, e := store.Open(d, log)
		if store.Format(d, log) != api.ErrArg || s != nil || e != api.ErrArg {
			t.Errorf("a log of %d: %d", log, e)
		}
	}
	d := littered(t, 12)
	stays(t, d, func() {
		for _, log := range []int{2, 1, 0, -1, math.MinInt, 9, 10, 12, 13, math.MaxInt, math.MaxInt - 3} {
			check(d, log)
		}
	})
	small := littered(t, 6)
	for _, log := range []int{3, 2, math.MaxInt, math.MinInt} {
		check(small, log)
		check(nil, log)
		check(&disk.Disk{}, log)
	}
	d.Arm(0)
	d.Barrier()
	check(d, 2)
	d.Crash()
	for _, x := range [][3]int{{7, 3, 1}, {8, 3, 1}, {9, 3, 2}, {12, 8, 1}, {12, 3, 3}, {12, 7, 1}} {
		_, s := formatted(t, x[0], x[1])
		if s.Room() != x[2]*api.Sector || s.Size() != 2 || s.Next() != 1 || len(s.Ids()) != 0 {
			t.Errorf("%v: room %d, size %d", x, s.Room(), s.Size())
		}
	}
}

// P7.1: what Apply puts into the log, and a checkpoint into the halves in turn, with noughts behind.
func TestLayout(t *testing.T) {
	const log = 8
	d, s := formatted(t, 20, log)
	// Both halves are littered: what is laid down has noughts behind it all the same.
	lay(t, d, 15, bytes.Repeat([]byte{9}, 5*api.Sector))
	a := []store.Change{set(7, text(600)), gone(9), set(2, integer(-1)), set(7, text(900)), gone(2), gone(2), set(3, integer(3))}
	m := empty().behind(a...)
	ok(t, s.Apply(a...), s.Apply(set(1, api.Val{Kind: api.Pref, Num: 7})))
	m2 := m.behind(set(1, api.Val{Kind: api.Pref, Num: 7}))
	if m.next != 10 {
		t.Error(m.next)
	}
	got := records(t, d, log)
	if len(got) != 2 || !bytes.Equal(got[0], record(10, a...)) || !bytes.Equal(got[1], record(10, set(1, m2.objs[1]))) {
		t.Fatalf("%x", got)
	}
	opened(t, d, log, m2)
	check := func(turn int, heads, halves []byte, m model) {
		t.Helper()
		d.Crash()
		image := d.Image()
		if !bytes.Equal(image[:2*api.Sector], heads) || !bytes.Equal(image[10*api.Sector:], halves) || len(records(t, d, log)) != 0 {
			t.Errorf("turn %d: something else was laid down", turn)
		}
		if l, _, _ := wal.Open(d, 2, log); l.Age() != turn {
			t.Errorf("turn %d: age %d", turn, l.Age())
		}
		opened(t, d, log, m)
	}
	none, image2 := empty().image(), m2.image()
	ok(t, s.Checkpoint())
	check(2, append(head(1, 0, none, 1), head(2, 1, image2, 2)...), append(sectors(5, none), sectors(5, image2)...), m2)
	m3 := m2.behind(gone(7), gone(1))
	ok(t, s.Apply(gone(7), gone(1)), s.Checkpoint())
	check(3, append(head(3, 0, m3.image(), 3), head(2, 1, image2, 2)...), append(sectors(5, m3.image()), sectors(5, image2)...), m3)
	ok(t, s.Checkpoint())
	check(4, append(head(3, 0, m3.image(), 3), head(4, 1, m3.image(), 4)...), append(sectors(5, m3.image()), sectors(5, m3.image())...), m3)
	m5 := of(4, set(2, text(100)), set(2, text(1)), set(3, integer(1)), gone(3))
	ok(t, s.Replace(4, set(2, text(100)), set(2, text(1)), set(3, integer(1)), gone(3)))
	check(5, append(head(5, 0, m5.image(), 5), head(4, 1, m3.image(), 4)...), append(sectors(5, m5.image()), sectors(5, m3.image())...), m5)
}

// dice is changes of all kinds.
func dice(r *rand.Rand) []store.Change {
	var l []store.Change
	for range r.Intn(5) {
		id := 1 + r.Intn(12)
		if r.Intn(60) == 0 {
			id = 60 + r.Intn(10)*r.Intn(1000)
		}
		switch r.Intn(4) {
		case 0:
			l = append(l, gone(id))
		case 1:
			l = append(l, set(id, text(r.Intn(300))))
		default:
			l = append(l, set(id, integer(r.Intn(1<<r.Intn(60)))))
		}
	}
	return l
}

// P2, P7.1: what was applied, laid down and replaced is there, in this store and in one that is opened anew.
func TestLongRun(t *testing.T) {
	r := rand.New(rand.NewSource(7))
	d, s := formatted(t, 60, 14)
	m := empty()
	for i := range 3000 {
		l := dice(r)
		switch r.Intn(40) {
		case 0:
			ok(t, s.Checkpoint())
		case 1:
			next := 1
			for _, c := range l {
				next = max(next, c.Id+1+r.Intn(3))
			}
			ok(t, s.Replace(next, l...))
			m = of(next, l...)
		case 2:
			s = opened(t, d, 14, m)
		default:
			ok(t, s.Apply(l...))
			m = m.behind(l...)
		}
		if !m.is(s) {
			t.Fatalf("behind %d: %v, next %d, not %v, next %d", i, s.Ids(), s.Next(), m.ids(), m.next)
		}
	}
	opened(t, d, 14, m)
}

// P7.1: Get and Ids of what is there and what isn't.
func TestGet(t *testing.T) {
	_, s := formatted(t, 20, 8)
	ok(t, s.Apply(set(maxId, integer(1)), set(1, integer(2)), set(70, integer(3))))
	if !slices.Equal(s.Ids(), []int{1, 70, maxId}) || s.Next() != maxId+1 {
		t.Errorf("%v, next %d", s.Ids(), s.Next())
	}
	for _, id := range []int{0, -1, 2, 69, 71, maxId + 1, math.MaxInt, math.MinInt} {
		if v, e := s.Get(id); !val.Same(v, api.Val{}) || e != api.ErrMiss {
			t.Errorf("%d: %v, %d", id, v, e)
		}
	}
}

// P7.1: what Apply refuses, and which error comes first; then nothing has changed.
func TestApplyRefuses(t *testing.T) {
	d, s := formatted(t, 20, 8)
	ok(t, s.Apply(set(1, integer(1))))
	bad := api.Val{Kind: 9}
	big := api.Val{Kind: api.Tuple, Kids: slices.Repeat([]api.Val{text(4000)}, 5)}
	full := []store.Change{set(1, text(4000)), set(2, text(4000))}
	stays(t, d, func() {
		for i, x := range []struct {
			want api.Errno
			l    []store.Change
		}{
			{api.ErrArg, []store.Change{set(0, integer(1))}}, {api.ErrArg, []store.Change{set(-1, integer(1))}},
			{api.ErrArg, []store.Change{set(maxId+1, integer(1))}}, {api.ErrArg, []store.Change{set(math.MaxInt, integer(1))}},
			{api.ErrArg, []store.Change{gone(0)}}, {api.ErrArg, []store.Change{gone(math.MinInt)}},
			{api.ErrArg, []store.Change{set(2, bad), set(3, big), gone(0)}}, {api.ErrArg, append(slices.Clone(full), gone(0))},
			{api.ErrForm, []store.Change{set(2, bad)}}, {api.ErrForm, []store.Change{set(2, integer(2)), set(3, bad)}},
			{api.ErrForm, []store.Change{set(2, bad), gone(2)}}, {api.ErrForm, append(slices.Clone(full), set(3, bad))},
			{api.ErrBig, []store.Change{set(2, big)}}, {api.ErrBig, append(slices.Clone(full), set(3, big))},
			{api.ErrFull, full},
		} {
			if e := s.Apply(x.l...); e != x.want {
				t.Errorf("list %d: %d, not %d", i, e, x.want)
			}
		}
		ok(t, s.Apply(), s.Apply([]store.Change{}...))
	})
	m := model{2, map[int]api.Val{1: integer(1)}}
	if !m.is(s) {
		t.Error("the store has changed")
	}
	// What is gone has no value: none that could be wrong.
	ok(t, s.Apply(store.Change{Id: 3, Val: bad, Gone: true}))
	opened(t, d, 8, m.behind(gone(3)))
}

// P7.1: what Replace refuses, and which error comes first; then nothing has changed.
func TestReplaceRefuses(t *testing.T) {
	d, s := formatted(t, 20, 8)
	ok(t, s.Apply(set(1, integer(1))))
	bad := api.Val{Kind: 9}
	big := api.Val{Kind: api.Tuple, Kids: slices.Repeat([]api.Val{text(4000)}, 5)}
	stays(t, d, func() {
		for i, x := range []struct {
			want api.Errno
			next int
			l    []store.Change
		}{
			{api.ErrArg, 5, []store.Change{set(0, integer(1))}}, {api.ErrArg, maxNext, []store.Change{set(maxId+1, integer(1))}},
			{api.ErrArg, 0, nil}, {api.ErrArg, -1, nil}, {api.ErrArg, math.MinInt, nil}, {api.ErrArg, maxNext + 1, nil}, {api.ErrArg, math.MaxInt, nil},
			{api.ErrArg, 4, []store.Change{set(4, integer(1))}}, {api.ErrArg, 4, []store.Change{set(5, bad), set(2, integer(1))}},
			{api.ErrArg, 4, []store.Change{gone(4)}}, {api.ErrArg, maxId, []store.Change{set(maxId, integer(1))}},
			{api.ErrForm, 4, []store.Change{set(3, bad)}}, {api.ErrBig, 4, []store.Change{set(3, big)}},
			{api.ErrForm, 4, []store.Change{set(1, text(4000)), set(2, text(4000)), set(3, bad)}},
			{api.ErrFull, 4, []store.Change{set(1, text(4000)), set(2, text(4000))}},
		} {
			if e := s.Replace(x.next, x.l...); e != x.want {
				t.Errorf("list %d: %d, not %d", i, e, x.want)
			}
		}
	})
	if !(model{2, map[int]api.Val{1: integer(1)}}).is(s) {
		t.Error("the store has changed")
	}
	for _, x := range []struct {
		next int
		l    []store.Change
	}{{1, nil}, {maxNext, nil}, {maxId + 1, []store.Change{set(maxId, integer(1))}}, {5, []store.Change{set(4, integer(1)), set(4, text(3)), gone(1)}}} {
		ok(t, s.Replace(x.next, x.l...))
		s = opened(t, d, 8, of(x.next, x.l...))
	}
	// The next number is above all that ever were: it doesn't fall with what is applied.
	ok(t, s.Replace(maxNext), s.Apply(set(2, integer(1))))
	opened(t, d, 8, model{maxNext, map[int]api.Val{2: integer(1)}})
}

// P7.1: an image may have as many bytes as a half, and not one more, behind the changes.
func TestRoom(t *testing.T) {
	d, s := formatted(t, 24, 18)
	if s.Room() != 2*api.Sector {
		t.Fatal(s.Room())
	}
	// Number, count, number, two lengths of two bytes each, kind.
	fits := s.Room() - 3 - 5
	m := empty().behind(set(1, text(fits)))
	if len(m.image()) != s.Room() {
		t.Fatal(len(m.image()))
	}
	stays(t, d, func() {
		if e := s.Apply(set(1, text(fits+1))); e != api.ErrFull || !empty().is(s) {
			t.Errorf("one byte too many: %d", e)
		}
		if e := s.Replace(2, set(1, text(fits+1))); e != api.ErrFull || !empty().is(s) {
			t.Errorf("one byte too many: %d", e)
		}
	})
	ok(t, s.Apply(set(1, text(fits))), s.Checkpoint())
	s = opened(t, d, 18, m)
	stays(t, d, func() {
		if e := s.Apply(set(2, integer(0))); e != api.ErrFull || !m.is(s) {
			t.Errorf("an object more: %d", e)
		}
	})
	// What is too much on the way doesn't count, but what it comes to.
	ok(t, s.Apply(set(2, text(fits)), set(1, integer(1)), set(2, text(fits-5))))
	m = m.behind(set(2, text(fits-5)), set(1, integer(1)))
	opened(t, d, 18, m)
	ok(t, s.Replace(2, set(1, text(fits))), s.Apply(gone(1), set(1, text(fits))))
	opened(t, d, 18, of(2, set(1, text(fits))))
	// A next number that needs a byte more has no room, either.
	if e := s.Apply(gone(64)); e != api.ErrFull {
		t.Errorf("a longer next number: %d", e)
	}
	if e := s.Replace(64, set(1, text(fits))); e != api.ErrFull {
		t.Errorf("a longer next number: %d", e)
	}
}

// P7.1: a record must fit into an empty log; if the log has no room for it there is a checkpoint first.
func TestLogRoom(t *testing.T) {
	for log := 3; log < 7; log++ {
		d, s := formatted(t, 60, log)
		room := (log - 3) * inSector
		// Next number, count, number, a one, two lengths of at most two bytes, kind.
		size := room - 9
		if log == 3 {
			stays(t, d, func() {
				if s.Apply(gone(1)) != api.ErrFull || s.Apply(set(1, integer(1))) != api.ErrFull || s.Apply() != api.OK {
					t.Error("a log for heads alone")
				}
			})
			ok(t, s.Replace(2, set(1, text(900))), s.Checkpoint())
			opened(t, d, log, of(2, set(1, text(900))))
			continue
		}
		if n := len(record(2, set(1, text(size)))); n != room {
			t.Fatalf("a record of %d bytes, not %d", n, room)
		}
		stays(t, d, func() {
			if e := s.Apply(set(1, text(size+1))); e != api.ErrFull || !empty().is(s) {
				t.Errorf("log %d: %d", log, e)
			}
		})
		m := empty()
		for i := range 5 {
			ok(t, s.Apply(set(1, text(size-i))))
			m = m.behind(set(1, text(size-i)))
			opened(t, d, log, m)
			// Each of them fills the log: so the next one's checkpoint comes first, but of the first one.
			l, r, _ := wal.Open(d, 2, log)
			if len(r) != 1 || l.Age() != 1+i {
				t.Errorf("log %d: %d records, age %d", log, len(r), l.Age())
			}
		}
	}
}

// P7.1: how many objects there are takes a byte more from 64 on: that counts, too.
func TestRoomOfCount(t *testing.T) {
	d, s := formatted(t, 24, 18)
	var l []store.Change
	for id := 2; id <= 63; id++ {
		l = append(l, set(id, integer(id)))
	}
	left := s.Room() - len(empty().behind(append(l, set(1, text(64)))...).image())
	l = append(l, set(1, text(64+left)))
	m := empty().behind(l...)
	if len(m.image()) != s.Room() {
		t.Fatal(len(m.image()))
	}
	ok(t, s.Apply(l...), s.Apply(l[5]), s.Apply(append(l, gone(2), l[0])...))
	opened(t, d, 18, m)
	// 62 objects, and two units more, of three bytes each: these have room, but their count has not.
	unit := api.Val{Kind: api.Unit}
	ok(t, s.Replace(82, l[:61]...))
	long := s.Room() - s.Size() - 3 - 3 - 7
	ok(t, s.Apply(set(81, text(long))))
	if e := s.Apply(set(1, unit), set(63, unit)); e != api.ErrFull {
		t.Errorf("64 objects: %d", e)
	}
	ok(t, s.Apply(set(81, text(long-1))), s.Apply(set(1, unit), set(63, unit)))
	if s.Size() != s.Room() || len(s.Ids()) != 64 {
		t.Errorf("%d bytes of %d objects", s.Size(), len(s.Ids()))
	}
}

// P7.1: the most bytes of a record, where the log has sectors for more.
func TestBigRecord(t *testing.T) {
	d, s := formatted(t, api.MaxDisk, 33000)
	const most = 1 << 24
	l := slices.Repeat([]store.Change{set(1, text(4000))}, most/(4000+7)-1)
	// Two texts more, whose lengths have two bytes, make it so long that nothing is left.
	left := most - len(record(2, l...)) - 2*(2+2+3)
	l = append(l, set(1, text(left/2)), set(1, text(left-left/2)))
	if n := len(record(2, l...)); n != most {
		t.Fatalf("%d bytes, not %d", n, most)
	}
	stays(t, d, func() {
		longer := append(slices.Clone(l[:len(l)-1]), set(1, text(left-left/2+1)))
		if e := s.Apply(longer...); e != api.ErrFull || !empty().is(s) {
			t.Errorf("one byte too many: %d", e)
		}
	})
	ok(t, s.Apply(l...))
	opened(t, d, 33000, empty().behind(l...))
}

// P7.1: a nil store, and one that nobody opened.
func TestNilStore(t *testing.T) {
	for _, s := range []*store.Store{nil, {}} {
		v, e := s.Get(1)
		if !val.Same(v, api.Val{}) || e != api.ErrArg || len(s.Ids()) != 0 || s.Next() != 0 || s.Size() != 0 || s.Room() != 0 {
			t.Errorf("%v, %d, %v, %d, %d, %d", v, e, s.Ids(), s.Next(), s.Size(), s.Room())
		}
		if s.Apply() != api.ErrArg || s.Apply(set(0, api.Val{Kind: 9})) != api.ErrArg || s.Checkpoint() != api.ErrArg || s.Replace(1) != api.ErrArg {
			t.Error("a nil store does something")
		}
	}
}

// P7.4: what is handed in isn't kept or changed; answers are new memory.
func TestNothingShared(t *testing.T) {
	d, s := formatted(t, 20, 8)
	make2 := func() api.Val {
		return api.Val{Kind: api.Tuple, Kids: []api.Val{integer(1), {Kind: api.Con, Num: 2, Kids: []api.Val{integer(3), text(2)}}}}
	}
	want := func() model { return model{3, map[int]api.Val{1: make2(), 2: make2()}} }
	l := []store.Change{set(2, make2()), set(1, make2()), gone(2), set(2, make2())}
	spoil := func() {
		t.Helper()
		for i, c := range l {
			if c.Id != []int{2, 1, 2, 2}[i] || c.Gone != (i == 2) || i != 2 && !val.Same(c.Val, make2()) {
				t.Fatalf("change %d was changed", i)
			}
			if i != 2 {
				l[i].Val.Kids[1].Kids[0].Num = 99
			}
			l[i].Id = 50
		}
		if !want().is(s) {
			t.Fatal("what was handed in was kept")
		}
		l = []store.Change{set(2, make2()), set(1, make2()), gone(2), set(2, make2())}
	}
	ok(t, s.Apply(l...))
	spoil()
	ok(t, s.Replace(3, l...))
	spoil()
	ok(t, s.Checkpoint())
	a, _ := s.Get(1)
	b, _ := s.Get(1)
	a.Kids[1].Kids[0].Num, a.Kids[0].Num = 7, 7
	if !val.Same(b, make2()) || !want().is(s) {
		t.Error("Get answers no new memory")
	}
	s.Ids()[0] = 77
	_ = append(s.Ids()[:1], 99)
	if !want().is(s) {
		t.Error("Ids answers no new memory")
	}
	opened(t, d, 8, want())
}
