package store_test

import (
	"bytes"
	"encoding/binary"
	"hash/crc32"
	"maps"
	"slices"
	"strings"
	"testing"

	"scriptor/api"
	"scriptor/disk"
	"scriptor/store"
	"scriptor/val"
	"scriptor/wal"
)

const (
	maxId    = 1 << 40
	maxNext  = 1 << 41
	maxAge   = 1 << 62
	inSector = 511
)

// nums is numbers as the document says them, one behind the other.
func nums(list ...int) []byte {
	var b []byte
	for _, n := range list {
		b = binary.AppendVarint(b, int64(n))
	}
	return b
}

func sum(b []byte) int { return int(crc32.Checksum(b, crc32.MakeTable(crc32.Castagnoli))) }

func closed(b []byte) []byte {
	return binary.LittleEndian.AppendUint32(slices.Clone(b), uint32(sum(b)))
}

// sectors is these bytes, and noughts, so many sectors in all.
func sectors(count int, b []byte) []byte {
	return append(slices.Clone(b), make([]byte, count*api.Sector-len(b))...)
}

// headOf is a head of these numbers; head is one of an image.
func headOf(list ...int) []byte {
	return sectors(1, closed(append([]byte{0x53, 0x54}, nums(list...)...)))
}

func head(turn, half int, image []byte, least int) []byte {
	return headOf(turn, half, len(image), sum(image), least)
}

// logHead is a head of a log.
func logHead(age int) []byte {
	return sectors(1, closed(append([]byte{0x4C, 0x47}, nums(age)...)))
}

func integer(n int) api.Val { return api.Val{Kind: api.Int, Num: n} }

func text(n int) api.Val { return api.Val{Kind: api.Str, Text: strings.Repeat("t", n)} }

func told(v api.Val) []byte {
	b, _ := val.Encode(v)
	return append(nums(len(b)), b...)
}

func set(id int, v api.Val) store.Change { return store.Change{Id: id, Val: v} }

func gone(id int) store.Change { return store.Change{Id: id, Gone: true} }

// model is what a store holds, as the document says.
type model struct {
	next int
	objs map[int]api.Val
}

func empty() model { return model{1, nil} }

// of is what Replace makes.
func of(next int, l ...store.Change) model {
	m := empty().behind(l...)
	m.next = next
	return m
}

// behind is what Apply makes.
func (m model) behind(l ...store.Change) model {
	objs := make(map[int]api.Val)
	maps.Copy(objs, m.objs)
	for _, c := range l {
		m.next = max(m.next, c.Id+1)
		delete(objs, c.Id)
		if !c.Gone {
			objs[c.Id] = c.Val
		}
	}
	return model{m.next, objs}
}

func (m model) ids() []int { return slices.Sorted(maps.Keys(m.objs)) }

func (m model) image() []byte {
	b := nums(m.next, len(m.objs))
	for _, id := range m.ids() {
		b = append(b, nums(id)...)
		b = append(b, told(m.objs[id])...)
	}
	return b
}

// is: does a store hold just that?
func (m model) is(s *store.Store) bool {
	if s.Next() != m.next || s.Size() != len(m.image()) || !slices.Equal(s.Ids(), m.ids()) {
		return false
	}
	for id, want := range m.objs {
		if v, e := s.Get(id); e != api.OK || !val.Same(v, want) {
			return false
		}
	}
	return true
}

// record is a record of changes.
func record(next int, l ...store.Change) []byte {
	b := nums(next, len(l))
	for _, c := range l {
		if c.Gone {
			b = append(b, nums(c.Id, 0)...)
			continue
		}
		b = append(b, nums(c.Id, 1)...)
		b = append(b, told(c.Val)...)
	}
	return b
}

// ok ends the test if one of these calls didn't answer OK.
func ok(t *testing.T, all ...api.Errno) {
	t.Helper()
	for i, e := range all {
		if e != api.OK {
			t.Fatalf("call %d answers %d", i, e)
		}
	}
}

// formatted is an empty store on a new disk.
func formatted(t *testing.T, count, log int) (*disk.Disk, *store.Store) {
	t.Helper()
	d, e := disk.New(count)
	ok(t, e, store.Format(d, log))
	return d, opened(t, d, log, empty())
}

// opened is the store of a disk; what it holds is checked.
func opened(t *testing.T, d *disk.Disk, log int, want model) *store.Store {
	t.Helper()
	s, e := store.Open(d, log)
	if e != api.OK {
		t.Fatalf("Open: %d", e)
	}
	if !want.is(s) {
		t.Fatalf("%v, next %d, size %d, not %v, next %d, size %d", s.Ids(), s.Next(), s.Size(), want.ids(), want.next, len(want.image()))
	}
	return s
}

// littered is a disk of so many sectors without a nought.
func littered(t *testing.T, count int) *disk.Disk {
	t.Helper()
	d, _ := disk.New(count)
	for n := range count {
		ok(t, d.Write(n, bytes.Repeat([]byte{0x77}, api.Sector)))
	}
	ok(t, d.Barrier())
	return d
}

// lay writes bytes from a sector on, that last.
func lay(t *testing.T, d *disk.Disk, n int, b []byte) {
	t.Helper()
	for part := range slices.Chunk(b, api.Sector) {
		ok(t, d.Write(n, part))
		n++
	}
	ok(t, d.Barrier())
}

// records is what the log has.
func records(t *testing.T, d *disk.Disk, log int) [][]byte {
	t.Helper()
	_, l, e := wal.Open(d, 2, log)
	ok(t, e)
	return l
}

// stays checks that a call left a disk as it was, but for what waits there: nothing.
func stays(t *testing.T, d *disk.Disk, do func()) {
	t.Helper()
	image, steps := d.Image(), d.Steps()
	do()
	if d.Steps() != steps || !bytes.Equal(d.Image(), image) {
		t.Error("something was written")
	}
}
