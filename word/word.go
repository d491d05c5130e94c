// Package word is layer 1: see shared/doc/01-word.md.
package word

import (
	"dunnage/api"
)

const (
	maxBytes = 8    // a number in n bytes has at most so many
	lowBits  = 0x7f // what a byte of a number bears of it
	goesOn   = 0x80 // another byte of the number follows
	tenth    = 9    // the place of the last byte that a number may have
	tenthTop = 1    // nine bytes bear 63 of the 64 bits: one is left
)

// Put: see the chapter.
func Put(b []byte, v uint64, n int) ([]byte, api.Errno) {
	if !mayCount(n) {
		return nil, api.ErrArg
	}
	if !hasRoom(v, n) {
		return nil, api.ErrOver
	}
	out := make([]byte, len(b)+n)
	copy(out, b)
	number := out[len(b):]
	put := walk{func(i int, _ byte) bool {
		number[i] = byte(v >> (8 * i))
		return true
	}}
	put.over(number)
	return out, api.OK
}

// Get: see the chapter.
func Get(b []byte, at, n int) (uint64, api.Errno) {
	if !mayCount(n) || at < 0 {
		return 0, api.ErrArg
	}
	// at+n may leave an int; len(b)-at can't.
	if n > len(b)-at {
		return 0, api.ErrShort
	}
	v := uint64(0)
	get := walk{func(i int, c byte) bool {
		v |= uint64(c) << (8 * i)
		return true
	}}
	get.over(b[at : at+n])
	return v, api.OK
}

// Var: see the chapter.
func Var(v uint64) []byte {
	var out []byte
	for v > lowBits {
		out = append(out, byte(v)|goesOn)
		v >>= 7
	}
	return append(out, byte(v))
}

// ReadVar: see the chapter.
func ReadVar(b []byte, at int) (uint64, int, api.Errno) {
	if at < 0 {
		return 0, 0, api.ErrArg
	}
	if at > len(b) {
		return 0, 0, api.ErrShort
	}
	// Bytes that end while the walk still goes on are too short.
	v, end, e := uint64(0), at, api.ErrShort
	read := walk{func(i int, c byte) bool {
		if faulty(i, c) {
			e = api.ErrForm
			return false
		}
		v |= uint64(c&lowBits) << (7 * i)
		end++
		if c&goesOn != 0 {
			return true
		}
		e = api.OK
		return false
	}}
	read.over(b[at:])
	if e != api.OK {
		return 0, 0, e
	}
	return v, end, api.OK
}

// Text: see the chapter.
func Text(t []byte) []byte {
	return append(Var(uint64(len(t))), t...)
}

// ReadText: see the chapter.
func ReadText(b []byte, at, most int) ([]byte, int, api.Errno) {
	size, from, e := ReadVar(b, at)
	if e != api.OK {
		return nil, 0, e
	}
	// The length may be greater than any int: it is held as it was read until it is known to fit.
	if size > uint64(max(most, 0)) {
		return nil, 0, api.ErrLarge
	}
	if size > uint64(len(b)-from) {
		return nil, 0, api.ErrShort
	}
	text := make([]byte, int(size))
	copy(text, b[from:])
	return text, from + len(text), api.OK
}

// Zero: see the chapter.
func Zero(b []byte) bool {
	zero := walk{func(_ int, c byte) bool { return c == 0 }}
	return zero.over(b)
}

// mayCount: may a number be put in n bytes at all?
func mayCount(n int) bool {
	return n >= 1 && n <= maxBytes
}

// hasRoom: has v room in n bytes, n being from 1 to 8?
func hasRoom(v uint64, n int) bool {
	return n == maxBytes || v>>(8*n) == 0
}

// faulty: may c not stand at place i of a number as bytes? A byte of 0 behind others can only be the last one.
func faulty(i int, c byte) bool {
	return i == tenth && c > tenthTop || i > 0 && c == 0
}
