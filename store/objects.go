package store

import (
	"maps"
	"math"
	"slices"

	"scriptor/api"
	"scriptor/val"
	"scriptor/wire"
)

const (
	maxId   = 1 << 40
	maxNext = 1 << 41

	// What stands behind an object's number in a record.
	isGone  = 0
	isThere = 1
)

// objects is what an image tells.
type objects struct {
	next int
	// told is the values' bytes, by the objects' numbers: a value that is made of them anew is nobody else's.
	told map[int][]byte
	size int // bytes of all entries
}

func none(next int) objects { return objects{next: next, told: map[int][]byte{}} }

// change is an object's new value, as bytes; without any the object is gone.
type change struct {
	id   int
	told []byte
}

// entry: what an image has of one object.
func entry(id int, told []byte) []byte { return append(wire.Num(id), wire.Str(string(told))...) }

// front: what stands ahead of the entries.
func front(next, count int) []byte { return append(wire.Num(next), wire.Num(count)...) }

func (o objects) ids() []int { return slices.Sorted(maps.Keys(o.told)) }

func (o objects) image() []byte {
	b := front(o.next, len(o.told))
	for _, id := range o.ids() {
		b = append(b, entry(id, o.told[id])...)
	}
	return b
}

// imageSize: how many bytes image answers.
func (o objects) imageSize() int { return len(front(o.next, len(o.told))) + o.size }

// sizeBehind: how many bytes the image would have behind changes.
func (o objects) sizeBehind(next int, l []change) int {
	// Of changes of one object the last one counts.
	last := make(map[int]change, len(l))
	for _, c := range l {
		last[c.id] = c
	}
	count, size := len(o.told), o.size
	for id, c := range last {
		if told, ok := o.told[id]; ok {
			count--
			size -= len(entry(id, told))
		}
		if len(c.told) > 0 {
			count++
			size += len(entry(id, c.told))
		}
	}
	return len(front(next, count)) + size
}

// nextBehind: the next number behind changes.
func (o objects) nextBehind(l []change) int {
	next := o.next
	for _, c := range l {
		next = max(next, c.id+1)
	}
	return next
}

func (o *objects) apply(next int, l []change) {
	o.next = next
	for _, c := range l {
		o.set(c)
	}
}

func (o *objects) set(c change) {
	if told, ok := o.told[c.id]; ok {
		o.size -= len(entry(c.id, told))
		delete(o.told, c.id)
	}
	if len(c.told) > 0 {
		o.size += len(entry(c.id, c.told))
		o.told[c.id] = c.told
	}
}

// readImage: the objects that an image tells; false: it is none.
func readImage(b []byte) (objects, bool) {
	in := wire.Open(b)
	o := none(in.Num(1, maxNext))
	count := in.Num(0, math.MaxInt)
	last := 0
	// Bytes that say of more objects than they have come to an error, and to an end.
	for i := 0; i < count && in.Err() == api.OK; i++ {
		last = in.Num(last+1, min(maxId, o.next-1))
		o.set(change{last, readTold(in)})
	}
	return o, in.End() == api.OK
}

// readTold: a value's bytes.
func readTold(in *wire.In) []byte {
	told := []byte(in.Str(api.MaxValue))
	if _, e := val.Decode(told); e != api.OK {
		in.Fail(e)
	}
	return told
}

// record: what the log has of changes.
func record(next int, l []change) []byte {
	b := front(next, len(l))
	for _, c := range l {
		b = append(b, wire.Num(c.id)...)
		if len(c.told) == 0 {
			b = append(b, wire.Num(isGone)...)
			continue
		}
		b = append(b, wire.Num(isThere)...)
		b = append(b, wire.Str(string(c.told))...)
	}
	return b
}

// replay: the changes of a record are done; false: it is none, or none that can stand behind what is there.
func (o *objects) replay(b []byte) bool {
	in := wire.Open(b)
	next := in.Num(o.next, maxNext)
	count := in.Num(0, math.MaxInt)
	var l []change
	for i := 0; i < count && in.Err() == api.OK; i++ {
		c := change{id: in.Num(1, min(maxId, next-1))}
		if in.Num(isGone, isThere) == isThere {
			c.told = readTold(in)
		}
		l = append(l, c)
	}
	if in.End() != api.OK {
		return false
	}
	o.apply(next, l)
	return true
}
