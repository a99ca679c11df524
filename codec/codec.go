// Package codec is layer 1: numbers and texts as bytes. See shared/doc/01-codec.md.
package codec

import "shadowbox/api"

const (
	widest  = 8  // bytes of the greatest number of a fixed size
	longest = 10 // bytes of the greatest number in groups of seven bits
	more    = 128
	// A tenth byte has room for one bit alone: nine groups hold 63 of the 64 bits.
	lastGroup = 1
)

// Fixed lays numbers of so many bytes each, the lowest first.
func Fixed(b []byte, size int, l ...uint64) []byte {
	out := own(b)
	if !isSize(size) {
		return out
	}
	for _, n := range l {
		for i := range size {
			out = append(out, byte(n>>(8*i)))
		}
	}
	return out
}

// Take reads a number that Fixed laid.
func Take(b []byte, size int) (n uint64, rest []byte, ok bool) {
	if !isSize(size) || missing(b)(uint64(size)) {
		return 0, nil, false
	}
	for i, c := range b[:size] {
		n |= uint64(c) << (8 * i)
	}
	return n, own(b[size:]), true
}

// Short lays a number in as few bytes as it needs.
func Short(b []byte, n uint64) []byte {
	out := own(b)
	for n >= more {
		out = append(out, byte(n%more)+more)
		n /= more
	}
	return append(out, byte(n))
}

// ReadShort reads a number that Short laid, and tells how many bytes it has.
func ReadShort(b []byte) (n uint64, used int, e api.Errno) {
	for i, c := range b {
		if i == longest-1 && c > lastGroup {
			return 0, 0, api.ErrForm
		}
		n |= uint64(c%more) << (7 * i)
		if c >= more {
			continue
		}
		// An empty last group would give the number a second form.
		if c == 0 && i > 0 {
			return 0, 0, api.ErrForm
		}
		return n, i + 1, api.OK
	}
	return 0, 0, api.ErrEnd
}

// Text lays a text behind its length.
func Text(b []byte, s string) []byte {
	return append(Short(b, uint64(len(s))), s...)
}

// ReadText reads a text that Text laid, and tells how many bytes it has with its length.
func ReadText(b []byte, most int) (s string, used int, e api.Errno) {
	n, head, e := ReadShort(b)
	if e != api.OK {
		return "", 0, e
	}
	if most < 0 || n > uint64(most) {
		return "", 0, api.ErrBig
	}
	if missing(b[head:])(n) {
		return "", 0, api.ErrEnd
	}
	used = head + int(n)
	return string(b[head:used]), used, api.OK
}

// Zig tells a number as one that is not below 0.
func Zig(n int) uint64 {
	if n >= 0 {
		return 2 * uint64(n)
	}
	// One is added ahead of the sign's turn: the least int has no opposite.
	return 2*uint64(-(n+1)) + 1
}

// Zag tells the number whose Zig it is.
func Zag(u uint64) int {
	half := int(u / 2)
	if u%2 == 0 {
		return half
	}
	return -half - 1
}

func isSize(size int) bool { return size >= 1 && size <= widest }

// missing answers a look at whether b has fewer than n bytes; n is not made an int, as a length that was read may be beyond one.
func missing(b []byte) func(n uint64) bool {
	have := uint64(len(b))
	return func(n uint64) bool { return have < n }
}

// own answers b in new memory, so that laying behind it leaves the spare room of b alone.
func own(b []byte) []byte { return append([]byte{}, b...) }
