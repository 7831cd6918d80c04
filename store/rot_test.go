package store_test

import (
	"bytes"
	"math"
	"slices"
	"testing"

	"scriptor/api"
	"scriptor/disk"
	"scriptor/store"
	"scriptor/wal"
)

// rots checks that there is no store on a disk, and that nothing is written there.
func rots(t *testing.T, d *disk.Disk, log int, what string, n int) {
	t.Helper()
	stays(t, d, func() {
		if s, e := store.Open(d, log); s != nil || e != api.ErrRot {
			t.Errorf("%s %d: %d", what, n, e)
		}
	})
}

// marred is bytes with one changed.
func marred(b []byte, at int) []byte {
	b = slices.Clone(b)
	b[at] ^= 1
	return b
}

// twoImages is a disk with an image of object 1 in half 0, and one of object 2 in half 1; no head.
func twoImages(t *testing.T) (d *disk.Disk, zero, one model) {
	t.Helper()
	d, _ = formatted(t, 11, 3)
	zero, one = empty().behind(set(1, integer(1))), empty().behind(set(2, text(600)))
	lay(t, d, 5, append(sectors(3, zero.image()), sectors(3, one.image())...))
	return d, zero, one
}

// P7.1: which head counts: the one with the greater turn.
func TestHeads(t *testing.T) {
	d, zero, one := twoImages(t)
	a := func(turn int) []byte { return head(turn, 0, zero.image(), 1) }
	b := func(turn int) []byte { return head(turn, 1, one.image(), 1) }
	nought := sectors(1, nil)
	for _, x := range []struct {
		first, second []byte
		want          model
	}{
		{a(1), nought, zero}, {nought, b(2), one}, {a(1), b(2), one}, {a(3), b(2), zero}, {b(3), a(2), one}, {b(1), a(2), zero},
		{a(63), b(64), one}, {a(65), b(64), zero}, {a(math.MaxInt), b(2), zero}, {a(1), b(math.MaxInt - 1), one},
		{marred(a(3), 7), b(2), one}, {a(1), marred(b(2), 3), zero}, {a(0), b(2), one}, {a(-1), b(2), one}, {a(1), b(math.MinInt), zero},
		{a(1), headOf(2, 2, 2, sum([]byte{2, 0}), 1), zero}, {a(1), headOf(2, -1, 2, 0, 1), zero},
	} {
		lay(t, d, 0, append(bytes.Clone(x.first), x.second...))
		opened(t, d, 3, x.want)
	}
}

// P7.1: a checkpoint writes the other head and the other half, wherever those stand that count.
func TestOtherHead(t *testing.T) {
	for at := range 2 {
		for half := range 2 {
			d, zero, one := twoImages(t)
			m := []model{zero, one}[half]
			two := [][]byte{sectors(1, nil), sectors(1, nil)}
			two[at] = head(6, half, m.image(), 1)
			lay(t, d, 0, slices.Concat(two...))
			ok(t, opened(t, d, 3, m).Checkpoint())
			two[1-at] = head(7, 1-half, m.image(), 2)
			if !bytes.Equal(d.Image()[:2*api.Sector], slices.Concat(two...)) || !bytes.Equal(d.Image()[5*api.Sector:], slices.Repeat(sectors(3, m.image()), 2)) {
				t.Errorf("head %d, half %d", at, half)
			}
			opened(t, d, 3, m)
		}
	}
}

// P7.1: a store without a head, whatever is changed in one.
func TestNoHead(t *testing.T) {
	d, zero, _ := twoImages(t)
	n, c := len(zero.image()), sum(zero.image())
	mark := []byte{0x53, 0x54}
	numbers := nums(1, 0, n, c, 1)
	bad := [][]byte{
		sectors(1, nil), bytes.Repeat([]byte{0xFF}, api.Sector), append(mark, bytes.Repeat([]byte{0x80}, api.Sector-2)...),
		headOf(0, 0, n, c, 1), headOf(-1, 0, n, c, 1), headOf(1, 2, n, c, 1), headOf(1, -1, n, c, 1), headOf(1, 0, -1, c, 1),
		headOf(1, 0, n, -1, 1), headOf(1, 0, n, c+1<<32, 1), headOf(1, 0, n, c, 0), headOf(1, 0, n, c, -1), headOf(1, 0, n, c, maxAge+1),
		headOf(1, 0, n, c), headOf(1, 0, n, c, 1, 0), headOf(),
		sectors(1, closed(numbers)), sectors(1, closed(append([]byte{0x54, 0x53}, numbers...))), sectors(1, append(mark, numbers...)),
		sectors(1, append(mark, closed(numbers)...)), sectors(1, closed(append(mark, append([]byte{0x82, 0}, nums(0, n, c, 1)...)...))),
		closed(head(1, 0, zero.image(), 1)[:api.Sector-4]),
	}
	for i := range api.Sector {
		bad = append(bad, marred(head(1, 0, zero.image(), 1), i))
	}
	for i, h := range bad {
		lay(t, d, 0, append(bytes.Clone(h), sectors(1, nil)...))
		rots(t, d, 3, "head", i)
		lay(t, d, 0, append(sectors(1, nil), h...))
		rots(t, d, 3, "second head", i)
	}
	// A head whose image can't be is one: the other one, which is older, doesn't count.
	for i, h := range [][]byte{headOf(2, 0, n, c^1, 1), headOf(2, 0, n+1, c, 1), headOf(2, 0, 3*api.Sector+1, c, 1), headOf(2, 0, math.MaxInt, c, 1), headOf(2, 0, 0, 0, 1)} {
		lay(t, d, 0, append(head(1, 0, zero.image(), 1), h...))
		rots(t, d, 3, "image's head", i)
	}
	lay(t, d, 0, append(head(1, 0, zero.image(), 1), sectors(1, nil)...))
	opened(t, d, 3, zero)
}

// P7.1: images that aren't so, though their sum is right.
func TestNoImage(t *testing.T) {
	d, _, _ := twoImages(t)
	object := func(id int, v api.Val) []byte { return append(nums(id), told(v)...) }
	one := object(1, integer(1))
	for i, b := range [][]byte{
		nil, nums(1), nums(0, 0), nums(-1, 0), nums(maxNext+1, 0), nums(1, -1), nums(2, 1), nums(1, 0, 0), nums(1, math.MaxInt), nums(math.MaxInt, 0),
		append(nums(1, 1), one...), append(nums(2, 2), one...), append(nums(2, 0), one...), append(append(nums(2, 1), one...), 0),
		append(nums(9, 1), object(0, integer(1))...), append(nums(9, 1), object(-1, integer(1))...), append(nums(9, 1), object(9, integer(1))...),
		append(nums(maxNext, 1), object(maxId+1, integer(1))...),
		slices.Concat(nums(9, 2), one, one), slices.Concat(nums(9, 2), object(2, integer(1)), one), append(nums(9, 2), one[:len(one)-1]...),
		append(nums(9, 1, 1), 4, 14, 0), append(nums(9, 1, 1), 0), append(nums(9, 1, 1), 6, 0, 2, 2), append(nums(9, 1, 1), 4, 0, 0x80, 1),
		{0x82, 0, 0}, bytes.Repeat([]byte{0xFF}, 3*api.Sector),
	} {
		lay(t, d, 5, sectors(3, b))
		lay(t, d, 0, append(head(1, 0, b, 1), sectors(1, nil)...))
		rots(t, d, 3, "image", i)
	}
	for i, b := range [][]byte{nums(1, 0), nums(maxNext, 0), append(nums(2, 1), one...), append(nums(maxId+1, 1), object(maxId, integer(1))...)} {
		lay(t, d, 5, sectors(3, b))
		lay(t, d, 0, append(head(1, 0, b, 1), sectors(1, nil)...))
		if s, e := store.Open(d, 3); e != api.OK || s.Size() != len(b) {
			t.Errorf("image %d: %d", i, e)
		}
	}
}

// P7.1: an image in which something is changed, and the noughts behind it, to the half's end.
func TestRotImage(t *testing.T) {
	d, s := formatted(t, 11, 3)
	m := of(700, set(1, integer(1)), set(2, text(600)), set(5, integer(-7)))
	ok(t, s.Replace(700, set(1, integer(1)), set(2, text(600)), set(5, integer(-7))))
	half := bytes.Clone(d.Image()[8*api.Sector:])
	for i := range half {
		lay(t, d, 8, marred(half, i))
		rots(t, d, 3, "byte", i)
	}
	lay(t, d, 8, half)
	// What stands in the half that doesn't count doesn't matter.
	lay(t, d, 5, bytes.Repeat([]byte{1}, 3*api.Sector))
	opened(t, d, 3, m)
}

// P7.1: records that aren't so, and a log that isn't.
func TestRotLog(t *testing.T) {
	start, s := formatted(t, 30, 12)
	ok(t, s.Apply(set(4, integer(4))))
	five := record(6, set(5, integer(5)))
	for i, b := range [][]byte{
		nil, nums(6), append(five, 0), five[:len(five)-1], nums(0, 0), nums(4, 0), nums(-1, 0), nums(maxNext+1, 0), nums(6, -1), nums(6, 1), nums(6, math.MaxInt),
		record(5, set(5, integer(5))), record(6, set(0, integer(5))), record(6, set(-5, integer(5))), record(maxNext, set(maxId+1, integer(5))),
		record(6, gone(6)), record(6, gone(0)), record(4, set(3, integer(3))), nums(6, 1, 5, 2), nums(6, 1, 5, -1), nums(6, 1, 5, 1), nums(6, 2, 5, 0),
		append(nums(6, 1, 5, 1), 0), append(nums(6, 1, 5, 1), 4, 14, 0), append(nums(6, 1, 5, 1), 6, 0, 2, 2), append(nums(6, 1, 5), 0x82, 0, 4, 0, 2),
	} {
		for behind := range 2 {
			d := start.Copy()
			l, _, e := wal.Open(d, 2, 12)
			ok(t, e, l.Append(b))
			if behind > 0 {
				ok(t, l.Append(record(8, set(7, integer(7)))))
			}
			rots(t, d, 12, "record", i)
		}
	}
	m := empty().behind(set(4, integer(4)))
	for _, x := range []struct {
		b    []byte
		want model
	}{
		{five, m.behind(set(5, integer(5)))}, {nums(5, 0), m}, {record(5, gone(4)), m.behind(gone(4))}, {record(9, gone(4)), model{next: 9}},
		{record(maxNext, set(1, integer(1))), model{maxNext, m.behind(set(1, integer(1))).objs}},
		{record(maxId+1, set(maxId, integer(1))), m.behind(set(maxId, integer(1)))},
	} {
		d := start.Copy()
		l, _, e := wal.Open(d, 2, 12)
		ok(t, e, l.Append(x.b))
		opened(t, d, 12, x.want)
	}
	lay(t, start, 2, sectors(2, nil))
	rots(t, start, 12, "log", 0)
}

// P1, P7.1: numbers behind which there are none: nothing is written then; and an age that is never come to.
func TestLastNumbers(t *testing.T) {
	d, zero, _ := twoImages(t)
	check := func() {
		t.Helper()
		s := opened(t, d, 3, zero)
		stays(t, d, func() {
			if s.Checkpoint() != api.ErrBig || s.Replace(1) != api.ErrBig || !zero.is(s) {
				t.Error("a turn or an age behind the last one")
			}
		})
	}
	lay(t, d, 0, append(head(math.MaxInt, 0, zero.image(), 1), sectors(1, nil)...))
	check()
	lay(t, d, 0, slices.Concat(head(1, 0, zero.image(), maxAge), sectors(1, nil), logHead(maxAge)))
	check()
	for _, least := range []int{maxAge, 1<<30 + 2} {
		lay(t, d, 0, slices.Concat(head(1, 0, zero.image(), least), sectors(1, nil), logHead(1)))
		rots(t, d, 3, "least age", least)
	}
	lay(t, d, 0, slices.Concat(head(1, 0, zero.image(), maxAge), sectors(1, nil), logHead(maxAge-3)))
	opened(t, d, 3, zero)
	// The turn before the last one, the age before the last one.
	lay(t, d, 0, slices.Concat(head(math.MaxInt-1, 0, zero.image(), 1), sectors(1, nil), logHead(maxAge-1), sectors(1, nil)))
	s := opened(t, d, 3, zero)
	ok(t, s.Checkpoint())
	opened(t, d, 3, zero)
}

// P7.1: a log whose objects have no room in a half: what makes them fewer is done, a checkpoint isn't.
func TestLogAboveRoom(t *testing.T) {
	d, _ := formatted(t, 30, 26)
	l, _, e := wal.Open(d, 2, 26)
	ok(t, e, l.Append(record(2, set(1, text(700)))))
	m := empty().behind(set(1, text(700)))
	s := opened(t, d, 26, m)
	stays(t, d, func() {
		if s.Room() != api.Sector || s.Checkpoint() != api.ErrFull || s.Apply(gone(2)) != api.ErrFull || !m.is(s) {
			t.Error("more than room")
		}
	})
	ok(t, s.Apply(set(1, text(30))), s.Checkpoint())
	opened(t, d, 26, m.behind(set(1, text(30))))
}

// P1: whatever stands on a disk, Open ends, and answers a store or an error.
func TestAnyBytes(t *testing.T) {
	start, s := formatted(t, 14, 6)
	ok(t, s.Apply(set(1, text(400))), s.Checkpoint(), s.Apply(set(2, integer(2))))
	image := start.Image()
	for i := 0; i < len(image); i++ {
		n := i / api.Sector
		d := start.Copy()
		lay(t, d, n, marred(image, i)[n*api.Sector:(n+1)*api.Sector])
		s, e := store.Open(d, 6)
		if e != api.OK && e != api.ErrRot || (s == nil) != (e == api.ErrRot) {
			t.Fatalf("byte %d: %d", i, e)
		}
	}
}
