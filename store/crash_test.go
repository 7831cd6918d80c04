package store_test

import (
	"testing"

	"scriptor/api"
	"scriptor/disk"
	"scriptor/store"
	"scriptor/wal"
)

// deed is something done to a store: Apply, Checkpoint (no changes), or Replace (next above 0).
type deed struct {
	next int
	l    []store.Change
}

func (x deed) do(s *store.Store) api.Errno {
	switch {
	case x.next > 0:
		return s.Replace(x.next, x.l...)
	case len(x.l) == 0:
		return s.Checkpoint()
	default:
		return s.Apply(x.l...)
	}
}

func (m model) with(x deed) model {
	if x.next > 0 {
		return of(x.next, x.l...)
	}
	return m.behind(x.l...)
}

// deeds: the log of six sectors fills again and again, and each image is another one.
func deeds() []deed {
	return []deed{
		{l: []store.Change{set(1, integer(1))}}, {l: []store.Change{set(2, text(700)), set(3, integer(3))}},
		{l: []store.Change{set(1, integer(2)), gone(3)}}, {l: []store.Change{set(4, text(1000))}}, {},
		{l: []store.Change{set(5, integer(5)), gone(4)}}, {}, {}, {next: 4, l: []store.Change{set(2, text(30)), set(3, text(800))}},
		{l: []store.Change{set(4, integer(4))}}, {l: []store.Change{gone(2), gone(3), gone(9)}}, {next: 1}, {l: []store.Change{set(1, text(1200))}},
		{l: []store.Change{set(1, text(1100))}}, {l: []store.Change{set(2, integer(2))}},
	}
}

const (
	crashDisk = 18
	crashLog  = 6
)

// until does deeds till the power goes: what was answered, what would be behind the other, what is left.
func until(t *testing.T, s *store.Store, m model, list []deed) (sure, perhaps model, left []deed) {
	t.Helper()
	for i, x := range list {
		switch e := x.do(s); e {
		case api.OK:
			m = m.with(x)
		case api.ErrDown:
			return m, m.with(x), list[i:]
		default:
			t.Fatalf("deed %d: %d", i, e)
		}
	}
	return m, m, nil
}

// picks is the bits of a number, as a crash takes them.
func picks(bits int) []int {
	var list []int
	for i := range 8 {
		list = append(list, bits>>i)
	}
	return list
}

// comeBack opens a store behind a crash, with power that goes in Open, too, and checks what it holds.
func comeBack(t *testing.T, d *disk.Disk, sure, perhaps model, seed int) (*store.Store, model) {
	t.Helper()
	for i := range 4 {
		d.Arm((seed + i) % 4)
		_, e := store.Open(d, crashLog)
		if e != api.OK && e != api.ErrDown {
			t.Fatalf("Open: %d", e)
		}
		d.Crash(picks(seed * (i + 5))...)
	}
	s, e := store.Open(d, crashLog)
	if e != api.OK || !sure.is(s) && !perhaps.is(s) {
		t.Fatalf("behind a crash: %d, %v, next %d; sure were %v, next %d", e, s.Ids(), s.Next(), sure.ids(), sure.next)
	}
	if sure.is(s) {
		perhaps = sure
	}
	stays(t, d, func() { s = opened(t, d, crashLog, perhaps) })
	return s, perhaps
}

// P3, P7.2, P7.3: the power goes at each change, and of what waits anything may last; then again, behind it, and in Open.
func TestPowerGoes(t *testing.T) {
	start, _ := formatted(t, crashDisk, crashLog)
	for n := range 140 {
		for bits := range 16 {
			d := start.Copy()
			s := opened(t, d, crashLog, empty())
			d.Arm(n)
			sure, perhaps, left := until(t, s, empty(), deeds())
			d.Crash(picks(bits * 17)...)
			s, m := comeBack(t, d, sure, perhaps, n+bits)
			if n > 130 && len(left) > 0 {
				t.Fatal("the power goes too early to see all of it")
			}
			again(t, d, s, m, left, n*7+bits)
		}
	}
}

// again goes on with what is left to do, and loses power on the way, time and again.
func again(t *testing.T, d *disk.Disk, s *store.Store, m model, left []deed, seed int) {
	t.Helper()
	for tries := 0; len(left) > 0; tries++ {
		d.Arm((seed+tries)%11 + tries)
		sure, perhaps, rest := until(t, s, m, left)
		d.Crash(picks(seed * (tries + 3))...)
		s, m = comeBack(t, d, sure, perhaps, seed+tries)
		left = rest
	}
}

// P7.2: a Format that is broken off, on a disk of noughts, leaves no store, or one without objects.
func TestFormatBreaks(t *testing.T) {
	for n := range 14 {
		for bits := range 64 {
			d, _ := disk.New(crashDisk)
			d.Arm(n)
			whole := store.Format(d, crashLog) == api.OK
			d.Crash(picks(bits)...)
			s, e := store.Open(d, crashLog)
			if e != api.OK && e != api.ErrRot || e == api.OK && !empty().is(s) || whole && e != api.OK {
				t.Fatalf("change %d: %d", n, e)
			}
			ok(t, store.Format(d, crashLog))
			opened(t, d, crashLog, empty())
		}
	}
}

// P7.2: errors of the disk come as they are; then the store is to be opened anew: till it is, it answers so.
func TestDown(t *testing.T) {
	for n := range 14 {
		for _, x := range []deed{{}, {l: []store.Change{set(1, integer(2))}}, {next: 5, l: []store.Change{set(4, integer(4))}}} {
			d, s := formatted(t, crashDisk, crashLog)
			ok(t, s.Apply(set(1, integer(1))))
			m := empty().behind(set(1, integer(1)))
			d.Arm(n)
			if x.do(s) == api.OK {
				continue
			}
			if e := store.Format(d, crashLog); e != api.ErrDown {
				t.Fatalf("Format without power: %d", e)
			}
			if got, e := store.Open(d, crashLog); got != nil || e != api.ErrDown {
				t.Fatalf("Open without power: %d", e)
			}
			if !m.is(s) {
				t.Fatal("a call that wasn't answered is to be seen")
			}
			// What lasts now the old store doesn't know, and it must not write as if it did.
			d.Crash(1, 1, 1, 1, 1, 1)
			stays(t, d, func() {
				if s.Apply(gone(1)) != api.ErrDown || s.Checkpoint() != api.ErrDown || s.Replace(1) != api.ErrDown || s.Apply() != api.OK {
					t.Error("a store that isn't opened anew")
				}
				if s.Apply(gone(0)) != api.ErrArg || s.Replace(0) != api.ErrArg || s.Apply(set(1, api.Val{Kind: 9})) != api.ErrForm || s.Apply(set(1, text(4000))) != api.ErrFull {
					t.Error("what is refused is refused without power, too")
				}
			})
			comeBack(t, d, m, m.with(x), n)
		}
	}
}

// P7.2: a crash between calls that were answered costs nothing, and the store goes on.
func TestCrashBetween(t *testing.T) {
	d, s := formatted(t, crashDisk, crashLog)
	m := empty()
	for range 3 {
		for _, x := range deeds() {
			d.Crash()
			ok(t, x.do(s))
			m = m.with(x)
		}
	}
	d.Crash()
	opened(t, d, crashLog, m)
}

// P7.1, P7.2: a log that is younger than the image needs is truncated, again and again.
func TestYoungLog(t *testing.T) {
	d, s := formatted(t, crashDisk, crashLog)
	for i := range 5 {
		ok(t, s.Apply(set(1, integer(i))), s.Checkpoint())
	}
	m := empty().behind(set(1, integer(4)))
	ok(t, wal.Format(d, 2, crashLog))
	l, _, e := wal.Open(d, 2, crashLog)
	ok(t, e, l.Append(record(3, set(2, integer(9)))))
	for n := range 10 {
		for bits := range 2 {
			c := d.Copy()
			c.Arm(n)
			if _, e := store.Open(c, crashLog); e != api.ErrDown {
				t.Fatalf("the power goes at change %d, and %d", n, e)
			}
			c.Crash(bits)
			opened(t, c, crashLog, m)
		}
	}
	s = opened(t, d, crashLog, m)
	l, r, e := wal.Open(d, 2, crashLog)
	if e != api.OK || l.Age() != 6 || len(r) != 0 {
		t.Errorf("%d, age %d, %d records", e, l.Age(), len(r))
	}
	stays(t, d, func() { s = opened(t, d, crashLog, m) })
	ok(t, s.Apply(set(2, integer(2))))
	opened(t, d, crashLog, m.behind(set(2, integer(2))))
}

// P7.1: an elder log's records count still, if its age isn't below the least one.
func TestOldLog(t *testing.T) {
	d, s := formatted(t, crashDisk, crashLog)
	ok(t, s.Apply(set(1, integer(1))))
	l, _, e := wal.Open(d, 2, crashLog)
	ok(t, e, l.Truncate(), l.Truncate(), l.Append(record(4, set(3, integer(3)))))
	m := empty().behind(set(3, integer(3)))
	s = opened(t, d, crashLog, m)
	ok(t, s.Checkpoint())
	if h := d.Image()[api.Sector : 2*api.Sector]; string(h) != string(head(2, 1, m.image(), 4)) {
		t.Errorf("%x", h[:40])
	}
	opened(t, d, crashLog, m)
}
