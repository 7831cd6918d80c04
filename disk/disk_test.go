package disk_test

import (
	"bytes"
	"math"
	"math/rand"
	"testing"

	"scriptor/api"
	"scriptor/disk"
)

// full is a sector of one byte.
func full(x byte) []byte { return bytes.Repeat([]byte{x}, api.Sector) }

// fresh is a disk of so many sectors.
func fresh(t *testing.T, sectors int) *disk.Disk {
	t.Helper()
	d, e := disk.New(sectors)
	if d == nil || e != api.OK {
		t.Fatalf("New(%d): %v, %d", sectors, d, e)
	}
	return d
}

// ok ends the test if one of these calls didn't answer OK.
func ok(t *testing.T, all ...api.Errno) {
	t.Helper()
	for i, e := range all {
		if e != api.OK {
			t.Fatalf("call %d answers %d", i, e)
		}
	}
}

// reads checks that sector n is full of x.
func reads(t *testing.T, d *disk.Disk, n int, x byte) {
	t.Helper()
	if b, e := d.Read(n); e != api.OK || !bytes.Equal(b, full(x)) {
		t.Errorf("sector %d: %.4x.., %d, not %x", n, b, e, x)
	}
}

// P4.1: how many sectors a disk may have; all of it is noughts, and lasts.
func TestNew(t *testing.T) {
	for _, n := range []int{1, 2, 77, api.MaxDisk} {
		d := fresh(t, n)
		if d.Count() != n || d.Steps() != 0 || d.Off() || !bytes.Equal(d.Image(), make([]byte, n*api.Sector)) {
			t.Errorf("New(%d): %d sectors, %d steps", n, d.Count(), d.Steps())
		}
		reads(t, d, 0, 0)
		reads(t, d, n-1, 0)
	}
	for _, n := range []int{0, -1, api.MaxDisk + 1, math.MaxInt, math.MinInt} {
		if d, e := disk.New(n); d != nil || e != api.ErrArg {
			t.Errorf("New(%d): %v, %d", n, d, e)
		}
	}
}

// P4.1: what was written last is read, ahead of a barrier and behind it.
func TestWriteAndRead(t *testing.T) {
	d := fresh(t, 3)
	ok(t, d.Write(0, full(1)), d.Write(2, full(2)), d.Write(0, full(3)))
	reads(t, d, 0, 3)
	reads(t, d, 1, 0)
	reads(t, d, 2, 2)
	if !bytes.Equal(d.Image(), make([]byte, 3*api.Sector)) {
		t.Error("what waits is in the image")
	}
	ok(t, d.Barrier(), d.Write(1, full(9)))
	reads(t, d, 0, 3)
	reads(t, d, 1, 9)
	if want := append(append(full(3), full(0)...), full(2)...); !bytes.Equal(d.Image(), want) {
		t.Error("the image isn't what lasts, one behind the other")
	}
}

// P4.1: sectors that there aren't, and bytes that aren't a sector: nothing is done, nothing counted.
func TestRefused(t *testing.T) {
	d := fresh(t, 2)
	for _, n := range []int{-1, 2, 3, math.MaxInt, math.MinInt} {
		if e := d.Write(n, full(1)); e != api.ErrArg {
			t.Errorf("Write(%d): %d", n, e)
		}
		if b, e := d.Read(n); b != nil || e != api.ErrArg {
			t.Errorf("Read(%d): %x, %d", n, b, e)
		}
	}
	for _, b := range [][]byte{nil, {}, {1}, full(1)[1:], append(full(1), 1), make([]byte, 2*api.Sector)} {
		if e := d.Write(0, b); e != api.ErrArg {
			t.Errorf("Write of %d bytes: %d", len(b), e)
		}
	}
	ok(t, d.Barrier())
	if d.Steps() != 1 || !bytes.Equal(d.Image(), make([]byte, 2*api.Sector)) {
		t.Errorf("a write that was refused did something: %d steps", d.Steps())
	}
}

// P4.1: of the writes that wait those last whose pick is odd, in their order.
func TestPicks(t *testing.T) {
	for _, x := range []struct {
		picks []int
		want  byte
	}{
		{nil, 1}, {[]int{}, 1}, {[]int{1}, 2}, {[]int{0, 1}, 3}, {[]int{1, 1}, 3}, {[]int{1, 0}, 2}, {[]int{0, 0}, 1},
		{[]int{2, 4}, 1}, {[]int{3, 2}, 2}, {[]int{-1, 0}, 2}, {[]int{-2, -3}, 3}, {[]int{math.MaxInt, math.MinInt}, 2},
		{[]int{0, 0, 1, 1}, 1}, {[]int{1, 0, 1}, 2},
	} {
		d := fresh(t, 1)
		ok(t, d.Write(0, full(1)), d.Barrier(), d.Write(0, full(2)), d.Write(0, full(3)))
		d.Crash(x.picks...)
		reads(t, d, 0, x.want)
		if !bytes.Equal(d.Image(), full(x.want)) || d.Steps() != 4 {
			t.Errorf("Crash(%v): %x lasts, %d steps", x.picks, d.Image()[0], d.Steps())
		}
		// Nothing waits any more.
		d.Crash(1, 1, 1)
		ok(t, d.Barrier())
		reads(t, d, 0, x.want)
	}
}

// P4.1: so many changes are done, and the next one that could be turns the power off.
func TestArm(t *testing.T) {
	for n := -2; n < 7; n++ {
		d := fresh(t, 2)
		ok(t, d.Write(1, full(9)), d.Barrier())
		d.Arm(n)
		done := max(n, 0)
		for i := range 8 {
			if d.Off() != (i > done) {
				t.Fatalf("Arm(%d): ahead of change %d Off is %v", n, i, d.Off())
			}
			if !d.Off() {
				refusedAhead(t, d)
			}
			want := api.ErrDown
			if i < done {
				want = api.OK
			}
			e := d.Barrier
			if i%3 != 2 {
				e = func() api.Errno { return d.Write(0, full(byte(i+1))) }
			}
			if got := e(); got != want {
				t.Fatalf("Arm(%d): change %d answers %d", n, i, got)
			}
		}
		if d.Steps() != 2+done || !d.Off() {
			t.Errorf("Arm(%d): %d steps", n, d.Steps())
		}
		allDown(t, d)
	}
}

// refusedAhead checks that a disk with power, though its changes may have run out, reads, and refuses as ever.
func refusedAhead(t *testing.T, d *disk.Disk) {
	t.Helper()
	reads(t, d, 1, 9)
	_, e := d.Read(2)
	if e != api.ErrArg || d.Write(2, full(1)) != api.ErrArg || d.Write(0, nil) != api.ErrArg || d.Off() {
		t.Error("what is refused isn't counted")
	}
}

// allDown checks that a disk without power answers so, ahead of all other errors.
func allDown(t *testing.T, d *disk.Disk) {
	t.Helper()
	for _, n := range []int{0, -1, 2, math.MaxInt} {
		if b, e := d.Read(n); b != nil || e != api.ErrDown {
			t.Errorf("Read(%d) without power: %x, %d", n, b, e)
		}
		if d.Write(n, full(1)) != api.ErrDown || d.Write(n, nil) != api.ErrDown {
			t.Errorf("Write(%d) without power", n)
		}
	}
	if d.Barrier() != api.ErrDown || !d.Off() {
		t.Error("Barrier without power")
	}
}

// P4.1: a change that finds no power doesn't wait, and a barrier without it does nothing.
func TestDownDoesNothing(t *testing.T) {
	d := fresh(t, 1)
	ok(t, d.Write(0, full(1)))
	d.Arm(0)
	if d.Write(0, full(2)) != api.ErrDown || d.Write(0, full(3)) != api.ErrDown {
		t.Fatal("no power")
	}
	d.Crash(0, 1, 1)
	reads(t, d, 0, 0)
	ok(t, d.Write(0, full(4)))
	d.Arm(0)
	if d.Barrier() != api.ErrDown {
		t.Fatal("no power")
	}
	d.Crash()
	reads(t, d, 0, 0)
	if d.Steps() != 2 {
		t.Errorf("%d steps", d.Steps())
	}
}

// P4.1: arming again counts anew; power comes with a crash alone, and a crash forgets that the disk was armed.
func TestArmAgain(t *testing.T) {
	d := fresh(t, 1)
	d.Arm(0)
	d.Arm(2)
	ok(t, d.Barrier(), d.Barrier())
	if d.Barrier() != api.ErrDown {
		t.Error("armed by the second call")
	}
	d.Arm(5)
	if !d.Off() {
		t.Error("Arm turned the power on")
	}
	allDown(t, d)
	d.Crash()
	if d.Off() {
		t.Error("Crash turned no power on")
	}
	for range 9 {
		ok(t, d.Write(0, full(1)), d.Barrier())
	}
	d.Arm(0)
	d.Crash()
	ok(t, d.Write(0, full(2)), d.Barrier())
	reads(t, d, 0, 2)
	if d.Steps() != 22 {
		t.Errorf("%d steps", d.Steps())
	}
	d.Arm(math.MaxInt)
	ok(t, d.Barrier())
	d.Arm(math.MinInt)
	if d.Barrier() != api.ErrDown {
		t.Error("Arm below 0 is Arm(0)")
	}
}

// P4.1: a copy has what lasts, and goes its own way.
func TestCopy(t *testing.T) {
	d := fresh(t, 2)
	ok(t, d.Write(0, full(1)), d.Barrier(), d.Write(0, full(2)))
	d.Arm(0)
	if d.Write(1, full(7)) != api.ErrDown {
		t.Fatal("no power")
	}
	c := d.Copy()
	if c.Off() || c.Steps() != 0 || c.Count() != 2 || !disk.Same(c, d) {
		t.Errorf("the copy: off %v, %d steps, %d sectors", c.Off(), c.Steps(), c.Count())
	}
	reads(t, c, 0, 1)
	ok(t, c.Write(1, full(5)), c.Barrier(), c.Barrier())
	if c.Steps() != 3 || d.Steps() != 3 || disk.Same(c, d) {
		t.Errorf("%d and %d steps", c.Steps(), d.Steps())
	}
	d.Crash(1)
	reads(t, d, 0, 2)
	reads(t, d, 1, 0)
	reads(t, c, 0, 1)
	reads(t, c, 1, 5)
	d.Arm(3)
	c = d.Copy()
	for range 5 {
		ok(t, c.Barrier())
	}
}

// P4.1: the same is what lasts, not what waits, not steps, not power.
func TestSame(t *testing.T) {
	a, b := fresh(t, 2), fresh(t, 2)
	if !disk.Same(a, b) || !disk.Same(a, a) || disk.Same(a, fresh(t, 3)) || disk.Same(fresh(t, 1), a) {
		t.Error("disks of noughts")
	}
	ok(t, a.Write(1, full(1)))
	if !disk.Same(a, b) {
		t.Error("what waits doesn't last")
	}
	ok(t, a.Barrier())
	if disk.Same(a, b) || disk.Same(b, a) {
		t.Error("other sectors")
	}
	ok(t, b.Write(1, full(2)), b.Write(1, full(1)), b.Barrier())
	b.Arm(0)
	b.Barrier()
	if !b.Off() || !disk.Same(a, b) {
		t.Error("steps and power count")
	}
	ok(t, a.Write(1, full(0)), a.Barrier())
	if !disk.Same(a, fresh(t, 2)) {
		t.Error("noughts that were written are noughts")
	}
}

// P1, P4.1: a nil disk, and one that nobody made.
func TestNil(t *testing.T) {
	var d *disk.Disk
	d.Arm(1)
	d.Crash(1)
	b, e := d.Read(0)
	if b != nil || e != api.ErrArg || d.Write(0, full(1)) != api.ErrArg || d.Barrier() != api.ErrArg {
		t.Error("a nil disk's sectors")
	}
	if d.Off() || d.Count() != 0 || d.Steps() != 0 || d.Image() != nil || d.Copy() != nil {
		t.Error("what a nil disk tells")
	}
	if !disk.Same(nil, nil) || disk.Same(nil, fresh(t, 1)) || disk.Same(fresh(t, 1), nil) {
		t.Error("Same of nil")
	}
	d = &disk.Disk{}
	d.Arm(1)
	d.Crash(1, 1)
	b, e = d.Read(0)
	if b != nil || e != api.ErrArg || d.Write(0, full(1)) != api.ErrArg || d.Count() != 0 || len(d.Image()) != 0 || d.Copy() == nil {
		t.Error("a disk without sectors")
	}
}

// model is what the document says of a disk, in its words.
type model struct {
	lasts map[int]byte
	waits [][2]int
	steps int
	left  int // -1: it isn't armed
	off   bool
}

func (m *model) change() api.Errno {
	if m.left == 0 {
		m.off = true
	}
	if m.off {
		return api.ErrDown
	}
	if m.left > 0 {
		m.left--
	}
	m.steps++
	return api.OK
}

func (m *model) write(n, x int) api.Errno {
	e := m.change()
	if e == api.OK {
		m.waits = append(m.waits, [2]int{n, x})
	}
	return e
}

func (m *model) barrier() api.Errno {
	e := m.change()
	if e == api.OK {
		m.settle(func(int) bool { return true })
	}
	return e
}

func (m *model) settle(does func(i int) bool) {
	for i, w := range m.waits {
		if does(i) {
			m.lasts[w[0]] = byte(w[1])
		}
	}
	m.waits = nil
}

func (m *model) crash(picks []int) {
	m.settle(func(i int) bool { return i < len(picks) && picks[i]%2 != 0 })
	m.left, m.off = -1, false
}

func (m *model) read(n int) byte {
	x := m.lasts[n]
	for _, w := range m.waits {
		if w[0] == n {
			x = byte(w[1])
		}
	}
	return x
}

// P4.1, P4.2: long rows of calls answer as the document says; what was behind a barrier lasts.
func TestRowsOfCalls(t *testing.T) {
	const sectors = 5
	for seed := range int64(60) {
		r := rand.New(rand.NewSource(seed))
		d, m := fresh(t, sectors), &model{lasts: map[int]byte{}, left: -1}
		for range 300 {
			switch k := r.Intn(20); {
			case k < 11:
				n, x := r.Intn(sectors), r.Intn(256)
				if got, want := d.Write(n, full(byte(x))), m.write(n, x); got != want {
					t.Fatalf("seed %d: Write answers %d, not %d", seed, got, want)
				}
			case k < 15:
				if got, want := d.Barrier(), m.barrier(); got != want {
					t.Fatalf("seed %d: Barrier answers %d, not %d", seed, got, want)
				}
			case k < 17:
				n := r.Intn(12)
				d.Arm(n)
				m.left = n
			default:
				picks := make([]int, r.Intn(9))
				for i := range picks {
					picks[i] = r.Intn(7) - 3
				}
				d.Crash(picks...)
				m.crash(picks)
			}
			agree(t, d, m, sectors)
		}
	}
}

// agree checks that a disk tells what the model does.
func agree(t *testing.T, d *disk.Disk, m *model, sectors int) {
	t.Helper()
	image := d.Image()
	for n := range sectors {
		if !bytes.Equal(image[n*api.Sector:][:api.Sector], full(m.lasts[n])) {
			t.Fatalf("of sector %d %x lasts, not %x", n, image[n*api.Sector], m.lasts[n])
		}
		if m.off {
			if _, e := d.Read(n); e != api.ErrDown {
				t.Fatalf("Read without power: %d", e)
			}
			continue
		}
		reads(t, d, n, m.read(n))
	}
	if d.Steps() != m.steps || d.Off() != m.off || d.Count() != sectors || t.Failed() {
		t.Fatalf("%d steps, not %d; off %v, not %v", d.Steps(), m.steps, d.Off(), m.off)
	}
}

// P4.3: what is handed in isn't kept or changed; answers are new memory.
func TestNothingShared(t *testing.T) {
	d := fresh(t, 2)
	room := append(full(1), 5, 6, 7)
	b := room[:api.Sector]
	ok(t, d.Write(0, b))
	b[0] = 9
	reads(t, d, 0, 1)
	ok(t, d.Barrier())
	b[1] = 9
	reads(t, d, 0, 1)
	if !bytes.Equal(room[api.Sector:], []byte{5, 6, 7}) {
		t.Error("spare room was changed")
	}
	one, _ := d.Read(0)
	two, _ := d.Read(0)
	c, image, other := d.Copy(), d.Image(), d.Image()
	one[0], image[0] = 7, 7
	if two[0] != 1 || other[0] != 1 {
		t.Error("two answers share memory")
	}
	_ = append(one[:1], full(8)...)
	_ = append(image[:1], full(8)...)
	reads(t, d, 0, 1)
	reads(t, c, 0, 1)
	none, _ := d.Read(1)
	none[0] = 3
	reads(t, d, 1, 0)
	reads(t, fresh(t, 1), 0, 0)
	picks := []int{1, 0, 1}
	ok(t, d.Write(0, full(4)))
	d.Crash(picks...)
	if picks[0] != 1 || picks[1] != 0 || picks[2] != 1 {
		t.Error("picks were changed")
	}
}
