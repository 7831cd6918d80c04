package store

import (
	"bytes"
	"math"
	"slices"

	"scriptor/api"
	"scriptor/crc"
	"scriptor/disk"
	"scriptor/wire"
)

const (
	heads    = 2 // sectors ahead of the log
	halves   = 2
	leastLog = 3       // sectors
	maxAge   = 1 << 62 // of the log

	headMark = "\x53\x54"
)

// place is a disk, and where on it everything stands.
type place struct {
	d    *disk.Disk
	log  int // its sectors
	half int // a half's
}

// placeOf: false: there is no room for a store.
func placeOf(d *disk.Disk, log int) (place, bool) {
	if d == nil || log < leastLog || log > d.Count()-heads-halves {
		return place{}, false
	}
	return place{d, log, (d.Count() - heads - log) / halves}, true
}

func (p place) room() int { return p.half * api.Sector }

// first: a half's first sector.
func (p place) first(half int) int { return heads + p.log + half*p.half }

// head says which image counts.
type head struct {
	turn  int
	half  int
	count int // of the image's bytes
	sum   int // of these
	least int // age of the log: what an elder one tells is in the image
}

// headOf: of an image.
func headOf(turn, half int, image []byte, least int) head {
	return head{turn, half, len(image), int(crc.Sum(image)), least}
}

func (h head) sector() []byte {
	return sector(crc.Close(slices.Concat([]byte(headMark),
		wire.Num(h.turn), wire.Num(h.half), wire.Num(h.count), wire.Num(h.sum), wire.Num(h.least))))
}

// sector: these bytes, and noughts behind them.
func sector(b []byte) []byte {
	s := make([]byte, api.Sector)
	copy(s, b)
	return s
}

// readHead: the head that a sector is; false: it is none.
func readHead(s []byte) (head, bool) {
	var h head
	in := wire.Open(s[len(headMark):])
	h.turn = in.Num(1, math.MaxInt)
	h.half = in.Num(0, halves-1)
	h.count = in.Num(0, math.MaxInt)
	h.sum = in.Num(0, math.MaxUint32)
	h.least = in.Num(1, maxAge)
	// A sector is a head if it is all that a head of these numbers is: mark, sum and noughts.
	return h, in.Err() == api.OK && bytes.Equal(s, h.sector())
}

// findHead: the head that counts, and which of the two it is.
func (p place) findHead() (head, int, api.Errno) {
	var found head
	at := 0
	for n := range heads {
		s, e := p.d.Read(n)
		if e != api.OK {
			return head{}, 0, e
		}
		if h, ok := readHead(s); ok && h.turn > found.turn {
			found, at = h, n
		}
	}
	if found.turn == 0 {
		return head{}, 0, api.ErrRot
	}
	return found, at, api.OK
}

// load: the objects of the image that a head says.
func (p place) load(h head) (objects, api.Errno) {
	b := make([]byte, 0, p.room())
	for i := range p.half {
		s, e := p.d.Read(p.first(h.half) + i)
		if e != api.OK {
			return objects{}, e
		}
		b = append(b, s...)
	}
	if h.count > len(b) || int(crc.Sum(b[:h.count])) != h.sum || len(bytes.Trim(b[h.count:], "\x00")) > 0 {
		return objects{}, api.ErrRot
	}
	o, ok := readImage(b[:h.count])
	if !ok {
		return objects{}, api.ErrRot
	}
	return o, api.OK
}

// lay: an image stands in a half, noughts behind it, and lasts.
func (p place) lay(half int, image []byte) api.Errno {
	for i := range p.half {
		size := min(len(image), api.Sector)
		if e := p.put(p.first(half)+i, sector(image[:size])); e != api.OK {
			return e
		}
		image = image[size:]
	}
	return p.d.Barrier()
}

// put: a sector is so. Most of a half are noughts, and were: those needn't be written.
func (p place) put(n int, s []byte) api.Errno {
	was, e := p.d.Read(n)
	if e != api.OK || bytes.Equal(was, s) {
		return e
	}
	return p.d.Write(n, s)
}

// putHead: a head stands in one of the two, and lasts.
func (p place) putHead(at int, h head) api.Errno {
	if e := p.d.Write(at, h.sector()); e != api.OK {
		return e
	}
	return p.d.Barrier()
}
