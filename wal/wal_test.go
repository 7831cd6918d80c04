package wal_test

import (
	"bytes"
	"encoding/binary"
	"hash/crc32"
	"math"
	"slices"
	"testing"

	"scriptor/api"
	"scriptor/disk"
	"scriptor/wal"
)

const (
	inSector = 511
	mostAge  = 1 << 62
	mostSize = 1 << 24
)

// nums is numbers as the document says them, one behind the other.
func nums(list ...int) []byte {
	var b []byte
	for _, n := range list {
		b = binary.AppendVarint(b, int64(n))
	}
	return b
}

func sum(b []byte) int { return int(crc32.Checksum(b, crc32.MakeTable(crc32.Castagnoli))) }

func closed(b []byte) []byte {
	return binary.LittleEndian.AppendUint32(slices.Clone(b), uint32(sum(b)))
}

// sector is these bytes, and noughts.
func sector(b []byte) []byte { return append(slices.Clone(b), make([]byte, api.Sector-len(b))...) }

func head(age int) []byte { return sector(closed(append([]byte{0x4C, 0x47}, nums(age)...))) }

// begin is a record's first sector, of these numbers.
func begin(list ...int) []byte { return sector(append([]byte{0x48}, closed(nums(list...))...)) }

// record is a record's sectors.
func record(age, number int, b []byte) [][]byte {
	list := [][]byte{begin(age, number, len(b), sum(b))}
	for part := range slices.Chunk(b, inSector) {
		list = append(list, sector(append([]byte{0x44}, part...)))
	}
	return list
}

// message is n bytes of all kinds.
func message(n int) []byte {
	b := make([]byte, n)
	for i := range b {
		b[i] = byte(i*i*7 + i*31 + n + 1)
	}
	return b
}

// laid is a disk of just these sectors, and noughts behind, that last.
func laid(t *testing.T, count int, sectors ...[]byte) *disk.Disk {
	t.Helper()
	d, _ := disk.New(count)
	for n, s := range sectors {
		ok(t, d.Write(n, s))
	}
	ok(t, d.Barrier())
	return d
}

// ok ends the test if one of these calls didn't answer OK.
func ok(t *testing.T, all ...api.Errno) {
	t.Helper()
	for i, e := range all {
		if e != api.OK {
			t.Fatalf("call %d answers %d", i, e)
		}
	}
}

// opened is the log in all of a disk; its records are checked.
func opened(t *testing.T, d *disk.Disk, age int, want ...[]byte) *wal.Log {
	t.Helper()
	l, got, e := wal.Open(d, 0, d.Count())
	if e != api.OK || l.Age() != age || !same(got, want) {
		t.Fatalf("Open: %d, age %d, %d records, not age %d and %d", e, l.Age(), len(got), age, len(want))
	}
	return l
}

func same(a, b [][]byte) bool { return slices.EqualFunc(a, b, bytes.Equal) }

// formatted is an empty log in all of a new disk.
func formatted(t *testing.T, count int) (*disk.Disk, *wal.Log) {
	t.Helper()
	d, _ := disk.New(count)
	ok(t, wal.Format(d, 0, count))
	return d, opened(t, d, 1)
}

// littered is a disk of nine sectors without a nought.
func littered(t *testing.T) *disk.Disk {
	t.Helper()
	return laid(t, 9, slices.Repeat([][]byte{bytes.Repeat([]byte{7}, api.Sector)}, 9)...)
}

// P5.1: what Format lays down, of its own sectors alone, and in which order it lasts.
func TestFormat(t *testing.T) {
	d := littered(t)
	before := d.Image()
	steps := d.Steps()
	ok(t, wal.Format(d, 2, 5))
	want := bytes.Clone(before)
	copy(want[2*api.Sector:], append(head(1), make([]byte, 4*api.Sector)...))
	if !bytes.Equal(d.Image(), want) {
		t.Error("Format lays down something else")
	}
	// Four sectors of noughts, a barrier, the head, a barrier.
	if d.Steps()-steps != 7 {
		t.Errorf("%d changes", d.Steps()-steps)
	}
	l, r, e := wal.Open(d, 2, 5)
	if e != api.OK || len(r) != 0 || l.Age() != 1 || l.Room() != 2*inSector {
		t.Errorf("Open: %d, %d records, age %d, room %d", e, len(r), l.Age(), l.Room())
	}
	d = littered(t)
	d.Arm(6)
	if e := wal.Format(d, 2, 5); e != api.ErrDown {
		t.Errorf("Format without power: %d", e)
	}
	d.Crash()
	copy(want[2*api.Sector:], before[:api.Sector])
	if !bytes.Equal(d.Image(), want) {
		t.Error("what stands ahead of the first barrier doesn't last")
	}
}

// P5.1: sectors that a log can't have.
func TestNoSuchSectors(t *testing.T) {
	d := littered(t)
	before, steps := d.Image(), d.Steps()
	check := func(d *disk.Disk, first, count int) {
		t.Helper()
		l, r, e := wal.Open(d, first, count)
		if wal.Format(d, first, count) != api.ErrArg || l != nil || r != nil || e != api.ErrArg {
			t.Errorf("from %d on %d", first, count)
		}
	}
	for _, x := range [][2]int{
		{-1, 5}, {math.MinInt, 5}, {0, 2}, {0, 0}, {0, -1}, {0, math.MinInt}, {0, 10}, {1, 9}, {6, 4}, {7, 3}, {9, 3}, {10, 3},
		{math.MaxInt, 3}, {math.MaxInt, math.MaxInt}, {0, math.MaxInt}, {5, math.MaxInt - 3}, {math.MaxInt - 2, 3},
	} {
		check(d, x[0], x[1])
	}
	check(nil, 0, 3)
	check(&disk.Disk{}, 0, 3)
	d.Arm(0)
	d.Barrier()
	check(d, 0, 2)
	if !bytes.Equal(d.Image(), before) || d.Steps() != steps {
		t.Error("something was written")
	}
	d.Crash()
	for _, x := range [][2]int{{0, 3}, {6, 3}, {0, 9}} {
		ok(t, wal.Format(d, x[0], x[1]))
		if _, _, e := wal.Open(d, x[0], x[1]); e != api.OK {
			t.Errorf("from %d on %d: %d", x[0], x[1], e)
		}
	}
}

// P5.1: the document's example.
func TestExample(t *testing.T) {
	d, l := formatted(t, 20)
	ok(t, l.Append([]byte("a")), l.Append(nil))
	ok(t, opened(t, d, 1, []byte("a"), nil).Truncate())
	opened(t, d, 2)
}

// P5.1: what Append lays down, and Truncate; P5.2: all of it lasts, and each in its order.
func TestLayout(t *testing.T) {
	d, l := formatted(t, 16)
	want := [][]byte{head(1), sector(nil)}
	check := func(changes int, do func() api.Errno) {
		t.Helper()
		steps := d.Steps()
		ok(t, do())
		d.Crash()
		all := slices.Concat(want...)
		if !bytes.Equal(d.Image(), append(all, make([]byte, 16*api.Sector-len(all))...)) {
			t.Fatal("something else was laid down")
		}
		if d.Steps()-steps != changes {
			t.Fatalf("%d changes, not %d", d.Steps()-steps, changes)
		}
	}
	for i, n := range []int{0, 1, inSector, inSector + 1, 2 * inSector, 0} {
		want = append(want, record(1, i, message(n))...)
		check(3+(n+inSector-1)/inSector, func() api.Errno { return l.Append(message(n)) })
	}
	want[1] = head(2)
	check(2, l.Truncate)
	copy(want[2:], record(2, 0, message(600)))
	check(5, func() api.Errno { return l.Append(message(600)) })
	want[0] = head(3)
	check(2, l.Truncate)
	want[1] = head(4)
	check(2, l.Truncate)
	copy(want[2:], record(4, 0, nil))
	check(3, func() api.Errno { return l.Append(nil) })
}

// P2, P5.1: records of many lengths come back; a log that was opened goes on where the other ended.
func TestReadAgain(t *testing.T) {
	d, _ := formatted(t, 400)
	var all [][]byte
	for _, n := range []int{0, 1, 2, 510, 511, 512, 1021, 1022, 1023, 0, 0, 5000, 20000, 3} {
		l := opened(t, d, 1, all...)
		room := l.Room()
		ok(t, l.Append(message(n)))
		all = append(all, message(n))
		if taken := 1 + (n+inSector-1)/inSector; room-l.Room() != taken*inSector || opened(t, d, 1, all...).Room() != l.Room() {
			t.Errorf("%d bytes: room %d, then %d", n, room, l.Room())
		}
	}
}

// P5.1: a log beside others, anywhere on the disk.
func TestLogsBeside(t *testing.T) {
	d, _ := disk.New(12)
	ok(t, wal.Format(d, 0, 4), wal.Format(d, 4, 5), wal.Format(d, 9, 3))
	for i, x := range [][2]int{{0, 4}, {4, 5}, {9, 3}} {
		l, _, e := wal.Open(d, x[0], x[1])
		ok(t, e, l.Truncate())
		for l.Room() >= 0 {
			ok(t, l.Append([]byte{byte(i)}[:min(l.Room(), 1)]))
		}
	}
	for i, x := range [][2]int{{0, 4}, {4, 5}, {9, 3}} {
		l, r, e := wal.Open(d, x[0], x[1])
		want := [][][]byte{{{0}}, {{1}, nil}, {nil}}[i]
		if e != api.OK || l.Age() != 2 || !same(r, want) {
			t.Errorf("log %d: %d, age %d, %q", i, e, l.Age(), r)
		}
	}
}

// P5.1: how many bytes a record may have: so many, and not one more.
func TestRoom(t *testing.T) {
	for count := 3; count < 9; count++ {
		for size := range 3 {
			d, l := formatted(t, count)
			if l.Room() != (count-3)*inSector {
				t.Fatalf("%d sectors: room %d", count, l.Room())
			}
			if l.Room() >= size {
				ok(t, l.Append(message(size)))
			}
			if l.Room() >= 0 {
				fill(t, d, l)
			}
			if l.Room() != -1 || l.Append(nil) != api.ErrFull || l.Append([]byte{1}) != api.ErrFull {
				t.Fatalf("%d sectors: room %d when it is full", count, l.Room())
			}
			ok(t, l.Truncate())
			fill(t, d, l)
		}
	}
}

// fill appends as many bytes as there may be; one more is refused, and changes nothing.
func fill(t *testing.T, d *disk.Disk, l *wal.Log) {
	t.Helper()
	room, steps := l.Room(), d.Steps()
	if e := l.Append(message(room + 1)); e != api.ErrFull || l.Room() != room || d.Steps() != steps {
		t.Fatalf("one byte more than %d: %d, room %d", room, e, l.Room())
	}
	ok(t, l.Append(message(room)))
	_, r, e := wal.Open(d, 0, d.Count())
	if e != api.OK || !bytes.Equal(r[len(r)-1], message(room)) || l.Room() != -1 {
		t.Fatalf("%d bytes don't come back", room)
	}
}

// P5.1: the most bytes of a record, where there are sectors for more.
func TestBig(t *testing.T) {
	d, l := formatted(t, api.MaxDisk)
	if l.Room() != mostSize {
		t.Errorf("room %d", l.Room())
	}
	big := message(mostSize + 1)
	steps := d.Steps()
	if e := l.Append(big); e != api.ErrBig || d.Steps() != steps || l.Room() != mostSize {
		t.Errorf("one byte too many: %d", e)
	}
	ok(t, l.Append(big[:mostSize]))
	if want := (api.MaxDisk - 3 - 1 - (mostSize+inSector-1)/inSector) * inSector; l.Room() != want {
		t.Errorf("room %d, not %d", l.Room(), want)
	}
	opened(t, d, 1, big[:mostSize])
	// ErrBig is looked for ahead of ErrFull.
	_, l = formatted(t, 5)
	if e := l.Append(big); e != api.ErrBig {
		t.Errorf("too many bytes, and no room: %d", e)
	}
}

// P5.1: which head counts: of those that are so, the one with the greater age, wherever it stands.
func TestHeads(t *testing.T) {
	for _, x := range []struct {
		first, second []byte
		age           int
	}{
		{head(1), sector(nil), 1}, {sector(nil), head(1), 1}, {head(1), head(2), 2}, {head(2), head(1), 2}, {head(3), head(2), 3},
		{head(64), head(63), 64}, {head(8192), head(8191), 8192}, {head(mostAge), head(5), mostAge}, {head(4), head(mostAge), mostAge},
		{head(6), head(mostAge + 1), 6}, {head(0), head(2), 2}, {head(-1), head(2), 2}, {head(math.MaxInt), head(7), 7},
		{head(3), marred(head(4), 3), 3}, {marred(head(9), 0), head(2), 2},
	} {
		l := opened(t, laid(t, 4, x.first, x.second), x.age)
		if l.Room() != inSector {
			t.Errorf("age %d: room %d", x.age, l.Room())
		}
	}
}

// marred is a sector with one byte changed.
func marred(s []byte, at int) []byte {
	s = slices.Clone(s)
	s[at] ^= 1
	return s
}

// P5.1: a log without a head: whatever is changed in one, and its records, too.
func TestNoHead(t *testing.T) {
	long := sector(closed([]byte{0x4C, 0x47, 0x82, 0x00}))
	rest := record(1, 0, []byte("x"))
	bad := [][]byte{
		sector(nil), head(0), head(-1), head(mostAge + 1), head(math.MaxInt), head(math.MinInt), long,
		sector(closed([]byte{0x4C, 0x47})), sector(closed(nums(1))), sector(closed([]byte{0x47, 0x4C, 2})),
		sector(append([]byte{0x4C, 0x47}, closed(nums(1))...)), sector([]byte{0x4C, 0x47, 2}), sector(closed([]byte{0x4C, 0x47, 2, 0})),
		bytes.Repeat([]byte{0xFF}, api.Sector), append([]byte{0x4C, 0x47}, bytes.Repeat([]byte{0x80}, api.Sector-2)...),
		closed(head(1)[:api.Sector-4]),
	}
	for i := range api.Sector {
		bad = append(bad, marred(head(77), i))
	}
	for i, s := range bad {
		for _, two := range [][2][]byte{{s, sector(nil)}, {sector(nil), s}} {
			l, r, e := wal.Open(laid(t, 4, two[0], two[1], rest[0], rest[1]), 0, 4)
			if l != nil || r != nil || e != api.ErrRot {
				t.Fatalf("head %d: %v, %q, %d", i, l, r, e)
			}
		}
	}
}

// P5.1: Truncate writes the other head, wherever the one that counts stands.
func TestTruncateWritesOther(t *testing.T) {
	for age := 1; age < 9; age++ {
		for place := range 2 {
			two := [][]byte{sector(nil), sector(nil)}
			two[place] = head(age)
			d := laid(t, 4, two...)
			ok(t, opened(t, d, age).Truncate())
			two[1-place] = head(age + 1)
			if !bytes.Equal(d.Image(), slices.Concat(two[0], two[1], sector(nil), sector(nil))) {
				t.Errorf("age %d in head %d", age, place)
			}
			opened(t, d, age+1)
		}
	}
}

// P5.1: there is no age above the greatest: then all stays as it is.
func TestLastAge(t *testing.T) {
	d := laid(t, 5, head(mostAge-1))
	l := opened(t, d, mostAge-1)
	ok(t, l.Truncate(), l.Append([]byte("z")))
	before := d.Image()
	if e := l.Truncate(); e != api.ErrBig || l.Age() != mostAge || !bytes.Equal(d.Image(), before) {
		t.Errorf("Truncate of the last age: %d, age %d", e, l.Age())
	}
	opened(t, d, mostAge, []byte("z"))
}

// P5.1: what isn't a record ends the records, and so many ahead of it are there.
func TestNoRecord(t *testing.T) {
	b := message(600)
	good := record(5, 1, b)
	swap := func(at int, s []byte) [][]byte {
		list := slices.Clone(good)
		list[at] = s
		return list
	}
	first := func(list ...int) [][]byte { return swap(0, begin(list...)) }
	bad := [][][]byte{
		first(4, 1, 600, sum(b)), first(6, 1, 600, sum(b)), first(5, 0, 600, sum(b)), first(5, 2, 600, sum(b)), first(5, -1, 600, sum(b)),
		first(5, 1, 599, sum(b)), first(5, 1, 601, sum(b)), first(5, 1, 0, sum(b)), first(5, 1, -600, sum(b)), first(5, 1, math.MaxInt, sum(b)),
		first(5, 1, mostSize+1, sum(b)), first(5, 1, 600, sum(b)+1), first(5, 1, 600, sum(b)+1<<32), first(5, 1, 600, -1),
		first(5, 1, 600), first(5, 1, 600, sum(b), 0), first(), swap(0, sector(nil)),
		swap(0, sector(append([]byte{0x48}, nums(5, 1, 600, sum(b))...))),
		swap(0, sector(closed(append([]byte{0x48}, nums(5, 1, 600, sum(b))...)))),
		swap(0, sector(append([]byte{0x48}, closed(append([]byte{0x8A, 0x00}, nums(1, 600, sum(b))...))...))),
		swap(0, append([]byte{0x48}, bytes.Repeat([]byte{0x80}, api.Sector-1)...)),
		{good[0], good[2], good[1]}, {good[0], good[1]}, {good[0]}, {good[1], good[2]}, {sector(nil), good[0], good[1], good[2]},
	}
	for i := range api.Sector {
		bad = append(bad, swap(0, marred(good[0], i)), swap(1, marred(good[1], i)), swap(2, marred(good[2], i)))
	}
	// One that would be longer than what is left of the log.
	past := message(5*inSector + 1)
	bad = append(bad, record(5, 1, past)[:6])
	start := append([][]byte{head(5), sector(nil)}, record(5, 0, []byte("first"))...)
	for i, list := range bad {
		d := laid(t, 10, append(slices.Clone(start), list...)...)
		_, r, e := wal.Open(d, 0, 10)
		if e != api.OK || !same(r, [][]byte{[]byte("first")}) {
			t.Fatalf("list %d: %d records, %d", i, len(r), e)
		}
	}
	opened(t, laid(t, 10, append(slices.Clone(start), good...)...), 5, []byte("first"), b)
	opened(t, laid(t, 7, append(slices.Clone(start), good...)...), 5, []byte("first"), b)
}

// P5.1: behind a record that isn't one there are none; the next one takes its place.
func TestBehindAGap(t *testing.T) {
	d, l := formatted(t, 12)
	for _, s := range []string{"a", "b", "c"} {
		ok(t, l.Append([]byte(s)))
	}
	ok(t, d.Write(4, sector(nil)), d.Barrier())
	l = opened(t, d, 1, []byte("a"))
	if l.Room() != 7*inSector {
		t.Errorf("room %d", l.Room())
	}
	ok(t, l.Append(message(1)))
	// The third record stands where it stood, and has the number that comes next.
	opened(t, d, 1, []byte("a"), message(1), []byte("c"))
}

// deed is something done to a log: an Append of bytes, or a Truncate.
type deed struct {
	truncate bool
	b        []byte
}

func (x deed) do(l *wal.Log) api.Errno {
	if x.truncate {
		return l.Truncate()
	}
	return l.Append(x.b)
}

// state is what a log holds, as the document says.
type state struct {
	age     int
	records [][]byte
}

func (s state) behind(x deed) state {
	if x.truncate {
		return state{age: s.age + 1}
	}
	return state{s.age, append(slices.Clip(s.records), x.b)}
}

func (s state) is(age int, records [][]byte) bool { return s.age == age && same(s.records, records) }

// until does deeds till one answers no OK: what was answered, and what would be behind the other.
func until(t *testing.T, l *wal.Log, s state, deeds []deed) (sure, perhaps state, left []deed) {
	t.Helper()
	for i, x := range deeds {
		switch e := x.do(l); e {
		case api.OK:
			s = s.behind(x)
		case api.ErrDown:
			return s, s.behind(x), deeds[i:]
		default:
			t.Fatalf("deed %d: %d", i, e)
		}
	}
	return s, s, nil
}

// comeBack opens a log behind a crash, and checks that it is as it was, or as it would be.
func comeBack(t *testing.T, d *disk.Disk, sure, perhaps state) (*wal.Log, state) {
	t.Helper()
	before := d.Image()
	l, r, e := wal.Open(d, 0, d.Count())
	if e != api.OK || !sure.is(l.Age(), r) && !perhaps.is(l.Age(), r) {
		t.Fatalf("behind a crash: %d, age %d, %d records; age %d, %d were sure", e, l.Age(), len(r), sure.age, len(sure.records))
	}
	if !bytes.Equal(d.Image(), before) {
		t.Fatal("Open changed the disk")
	}
	return l, state{l.Age(), r}
}

// picks is the bits of a number, as a crash takes them.
func picks(bits int) []int {
	var list []int
	for i := range 6 {
		list = append(list, bits>>i)
	}
	return list
}

// deeds are Appends of all kinds, of bytes that are records, too, and Truncates.
func deeds() []deed {
	trap := slices.Concat(record(1, 1, nil)[0], record(2, 0, nil)[0], head(9))
	return []deed{
		{b: message(1)}, {b: message(1100)}, {b: nil}, {truncate: true}, {b: trap}, {truncate: true}, {truncate: true},
		{b: message(511)}, {b: record(3, 1, nil)[0]}, {b: message(2)}, {truncate: true}, {b: message(3)},
	}
}

// P3, P5.2: the power goes at each change, and of what waits anything may last; then again, behind it.
func TestPowerGoes(t *testing.T) {
	start, _ := formatted(t, 12)
	for n := range 60 {
		for bits := range 16 {
			d := start.Copy()
			l := opened(t, d, 1)
			d.Arm(n)
			sure, perhaps, left := until(t, l, state{age: 1}, deeds())
			d.Crash(picks(bits)...)
			l, s := comeBack(t, d, sure, perhaps)
			again(t, d, l, s, left, n*7+bits)
		}
	}
}

// again goes on with what is left to do, and loses power on the way, time and again.
func again(t *testing.T, d *disk.Disk, l *wal.Log, s state, left []deed, seed int) {
	t.Helper()
	for tries := 0; len(left) > 0; tries++ {
		if l.Room() < 1600 {
			left = append([]deed{{truncate: true}}, left...)
		}
		d.Arm((seed + tries) % 9)
		sure, perhaps, rest := until(t, l, s, left)
		d.Crash(picks(seed * (tries + 3))...)
		l, s = comeBack(t, d, sure, perhaps)
		left = rest
	}
}

// P5.2: what is appended behind a crash in an Append isn't mixed with what that one left.
func TestOverTorn(t *testing.T) {
	for n := range 6 {
		for bits := range 16 {
			for _, size := range []int{0, 1, 511, 600, 1100, 1600} {
				d, l := formatted(t, 16)
				ok(t, l.Append([]byte("a")))
				d.Arm(n)
				torn := message(1100)
				sure := state{1, [][]byte{[]byte("a")}}
				if e := l.Append(torn); e == api.OK {
					sure = sure.behind(deed{b: torn})
				}
				d.Crash(picks(bits)...)
				l, s := comeBack(t, d, sure, state{1, [][]byte{[]byte("a"), torn}})
				ok(t, l.Append(bytes.Repeat([]byte{9}, size)), l.Append([]byte("b")))
				opened(t, d, 1, append(s.records, bytes.Repeat([]byte{9}, size), []byte("b"))...)
			}
		}
	}
}

// P5.2: errors of the disk come as they are; then the log is to be opened anew: till it is, it answers so.
func TestDown(t *testing.T) {
	d, l := formatted(t, 12)
	ok(t, l.Append([]byte("a")))
	d.Arm(1)
	if l.Truncate() != api.ErrDown || l.Append(nil) != api.ErrDown || l.Truncate() != api.ErrDown || l.Age() != 1 || l.Room() != 7*inSector {
		t.Errorf("without power: age %d, room %d", l.Age(), l.Room())
	}
	gone, r, e := wal.Open(d, 0, 12)
	if gone != nil || r != nil || e != api.ErrDown || wal.Format(d, 0, 12) != api.ErrDown {
		t.Errorf("Open without power: %v, %q, %d", gone, r, e)
	}
	if l.Append(message(mostSize+1)) != api.ErrBig || l.Append(message(7*inSector+1)) != api.ErrFull {
		t.Error("what is refused is refused without power, too")
	}
	// The head of age 2 lasts: what the old log would append there nobody would find.
	d.Crash(1)
	steps := d.Steps()
	if l.Append([]byte("b")) != api.ErrDown || l.Truncate() != api.ErrDown || d.Steps() != steps {
		t.Error("a log that isn't opened anew")
	}
	ok(t, opened(t, d, 2).Append([]byte("c")))
	opened(t, d, 2, []byte("c"))
	d.Crash()
	opened(t, d, 2, []byte("c"))
}

// P5.2: a crash between calls that were answered costs nothing, and the log goes on.
func TestCrashBetween(t *testing.T) {
	d, l := formatted(t, 12)
	for range 3 {
		d.Crash()
		ok(t, l.Append([]byte("a")))
		d.Crash()
		ok(t, l.Append([]byte("b")))
		d.Crash()
		opened(t, d, l.Age(), []byte("a"), []byte("b"))
		ok(t, l.Truncate())
	}
}

// P5.3: records of elder ages, in all places where those of this one may end, aren't taken for records.
func TestElderAges(t *testing.T) {
	for _, elder := range []int{0, 1, 511, 512, 1100} {
		for _, size := range []int{0, 1, 511, 512, 1100, 2000} {
			d, l := formatted(t, 14)
			for age := 1; age < 4; age++ {
				for l.Room() >= elder {
					ok(t, l.Append(message(elder)))
				}
				ok(t, l.Truncate())
				opened(t, d, age+1)
			}
			var want [][]byte
			for l.Room() >= size {
				ok(t, l.Append(message(size)))
				want = append(want, message(size))
				opened(t, d, 4, want...)
			}
		}
	}
}

// P5.3: bytes that say records of the ages that come, sector by sector, aren't taken for records.
func TestBytesLikeRecords(t *testing.T) {
	for shift := range 3 {
		d, l := formatted(t, 14)
		for age := 1; age < 5; age++ {
			trap := make([]byte, 0, 6*inSector)
			for number := range 6 {
				// The mark of a first sector at either edge of a sector of the record's bytes.
				part := record(age+1, number, nil)[0]
				trap = append(trap, append(make([]byte, shift), part...)[:inSector]...)
			}
			ok(t, l.Append(trap))
			opened(t, d, age, trap)
			ok(t, l.Truncate())
			opened(t, d, age+1)
			ok(t, l.Append(nil))
			opened(t, d, age+1, nil)
			ok(t, l.Append([]byte{1}), l.Truncate(), l.Truncate(), l.Append([]byte{2}))
			opened(t, d, age+3, []byte{2})
			ok(t, wal.Format(d, 0, 14))
			l = opened(t, d, 1)
			for range age {
				ok(t, l.Truncate())
			}
		}
	}
}

// P5.3: Format forgets all records, of all ages.
func TestFormatAgain(t *testing.T) {
	d, l := formatted(t, 14)
	ok(t, l.Append([]byte("a")), l.Append(message(900)), l.Truncate(), l.Append([]byte("b")), wal.Format(d, 0, 14))
	l = opened(t, d, 1)
	ok(t, l.Append([]byte("c")))
	opened(t, d, 1, []byte("c"))
	ok(t, l.Truncate())
	opened(t, d, 2)
}

// P1, P5.1: a nil log, and one that nobody opened.
func TestNilLog(t *testing.T) {
	var l *wal.Log
	if l.Append(nil) != api.ErrArg || l.Append(message(mostSize+1)) != api.ErrArg || l.Truncate() != api.ErrArg || l.Age() != 0 || l.Room() != -1 {
		t.Error("a nil log")
	}
	l = &wal.Log{}
	if l.Append([]byte{1}) == api.OK || l.Truncate() == api.OK || l.Age() != 0 || l.Room() != -1 {
		t.Error("a log without a disk")
	}
}

// P5.4: what is handed in isn't kept or changed; answers are new memory.
func TestNothingShared(t *testing.T) {
	d, l := formatted(t, 14)
	room := append(message(600), 1, 2, 3)
	before := bytes.Clone(room)
	b := room[:600]
	ok(t, l.Append(b), l.Append(b[:3]), l.Append(b[:0]))
	if !bytes.Equal(room, before) {
		t.Error("what was handed in was changed")
	}
	b[0]++
	_, one, _ := wal.Open(d, 0, 14)
	_, two, _ := wal.Open(d, 0, 14)
	want := [][]byte{message(600), message(600)[:3], nil}
	if !same(one, want) {
		t.Error("what was handed in was kept")
	}
	for i := range one {
		for k := range one[i] {
			one[i][k]++
		}
		_ = append(one[i], bytes.Repeat([]byte{0xEE}, 700)...)
	}
	if !same(two, want) || !bytes.Equal(one[1], []byte{want[1][0] + 1, want[1][1] + 1, want[1][2] + 1}) {
		t.Error("answers share memory")
	}
	opened(t, d, 1, want...)
}
