// Package wire is layer 3: numbers and texts as bytes: see shared/doc/03-wire.md.
package wire

import "scriptor/api"

// longest is how many bytes a number has at most: nine with seven bits each, and one with the last.
const longest = 10

// Num, Str: a number's bytes; a text's.
func Num(n int) []byte {
	b := make([]byte, 0, longest)
	u := fold(n)
	for u >= 128 {
		b = append(b, byte(u)|128)
		u >>= 7
	}
	return append(b, byte(u))
}

func Str(s string) []byte { return append(Num(len(s)), s...) }

// fold, unfold: a number as one without a sign, so that few bytes tell it on both sides of 0.
func fold(n int) uint64 {
	if n < 0 {
		// -2n - 1, but that -n of the least number would go round.
		return ^(uint64(n) << 1)
	}
	return uint64(n) << 1
}

func unfold(u uint64) int {
	if u&1 != 0 {
		return ^int(u >> 1)
	}
	return int(u >> 1)
}

// In is bytes that are read from the front on.
type In struct {
	rest []byte
	err  api.Errno
}

// Open: bytes.
func Open(b []byte) *In {
	// A copy: what was handed in may be changed while it is read.
	rest := make([]byte, len(b))
	copy(rest, b)
	return &In{rest: rest}
}

// Num, Str: the next number, between two; the next text, of so many bytes at most.
func (i *In) Num(least, most int) int {
	if i.Err() != api.OK {
		return 0
	}
	n, size, e := first(i.rest)
	if e == api.OK && (n < least || n > most) {
		e = api.ErrBig
	}
	if e != api.OK {
		i.err = e
		return 0
	}
	i.rest = i.rest[size:]
	return n
}

func (i *In) Str(most int) string {
	n := i.Num(0, most)
	if i.Err() != api.OK {
		return ""
	}
	if n > len(i.rest) {
		i.err = api.ErrTail
		return ""
	}
	s := string(i.rest[:n])
	i.rest = i.rest[n:]
	return s
}

// first: the number at the front, and how many bytes it has.
func first(b []byte) (n, size int, e api.Errno) {
	var u uint64
	for k, c := range b {
		// The tenth byte has room for one bit only. A byte above 1 here, so 128 too, isn't passed.
		if k == longest-1 && c > 1 {
			return 0, 0, api.ErrForm
		}
		u |= uint64(c&127) << (7 * k)
		if c >= 128 {
			continue
		}
		if c == 0 && k > 0 {
			return 0, 0, api.ErrForm
		}
		return unfold(u), k + 1, api.OK
	}
	return 0, 0, api.ErrTail
}

// Left: how many bytes are left; Err: the first error; Fail: there is one now.
func (i *In) Left() int {
	if i == nil {
		return 0
	}
	return len(i.rest)
}

func (i *In) Err() api.Errno {
	if i == nil {
		return api.ErrArg
	}
	return i.err
}

func (i *In) Fail(e api.Errno) {
	if i.Err() == api.OK {
		i.err = e
	}
}

// End: is it all?
func (i *In) End() api.Errno {
	if i.Left() > 0 {
		i.Fail(api.ErrForm)
	}
	return i.Err()
}
