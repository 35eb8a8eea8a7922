// Package utf is layer 1: code points as bytes, and bytes as code points (see shared/doc/01-utf.md).
package utf

import (
	"iter"

	"portcullis/api"
)

// sign stands in place of bytes that are no scalar's.
const sign rune = 0xFFFD

// The bytes that go on with a scalar, behind its first one.
const (
	lowest  byte = 0x80
	highest byte = 0xBF
)

// Next tells what stands at the front of s, of how many bytes, and whether it is whole.
func Next(s string) (r rune, n int, whole bool) {
	if s == "" {
		return 0, 0, false
	}
	if s[0] < 0x80 {
		return rune(s[0]), 1, true
	}
	more := following(s[0])
	if more == 0 {
		return sign, 1, false
	}
	low, high := second(s[0])
	r = rune(s[0] & (0x3F >> more))
	for n = 1; n <= more; n++ {
		if n == len(s) || s[n] < low || s[n] > high {
			return sign, n, false
		}
		r = r<<6 | rune(s[n]&0x3F)
		low, high = lowest, highest
	}
	return r, n, true
}

// Valid tells whether all of s is whole scalars.
func Valid(s string) bool {
	for _, whole := range scalars(s) {
		if !whole {
			return false
		}
	}
	return true
}

// Decode tells what stands in s, one behind the other.
func Decode(s string) []rune {
	var l []rune
	for r := range scalars(s) {
		l = append(l, r)
	}
	return l
}

// Encode answers the bytes of l's scalars, one behind the other.
func Encode(l []rune) (string, api.Errno) {
	var out []byte
	for _, r := range l {
		if !isScalar(r) {
			return "", api.ErrArg
		}
		out = appendScalar(out, r)
	}
	return string(out), api.OK
}

// Clean answers the bytes of what stands in s.
func Clean(s string) string {
	var out []byte
	for r := range scalars(s) {
		out = appendScalar(out, r)
	}
	return string(out)
}

// scalars tells what stands in s, one by one, and whether each is whole.
func scalars(s string) iter.Seq2[rune, bool] {
	return func(yield func(rune, bool) bool) {
		for at := 0; at < len(s); {
			r, n, whole := Next(s[at:])
			if !yield(r, whole) {
				return
			}
			at += n
		}
	}
}

// following tells how many bytes stand behind the first one of a scalar; 0, if
// it is the first one of none that has several. C0, C1 and those above F4 are
// left out: what they would begin has fewer bytes, or is beyond 10FFFF.
func following(first byte) int {
	more := 0
	switch {
	case first >= 0xF0 && first <= 0xF4:
		more++
		fallthrough
	case first >= 0xE0 && first <= 0xEF:
		more++
		fallthrough
	case first >= 0xC2 && first <= 0xDF:
		more++
	}
	return more
}

// second tells from where to where the byte behind the first one may be. It is
// bounded so that a false beginning is seen as early as there is one: what has
// fewer bytes (E0, F0), what is no scalar (ED), what is beyond 10FFFF (F4).
func second(first byte) (low, high byte) {
	switch first {
	case 0xE0:
		return 0xA0, highest
	case 0xED:
		return lowest, 0x9F
	case 0xF0:
		return 0x90, highest
	case 0xF4:
		return lowest, 0x8F
	}
	return lowest, highest
}

func isScalar(r rune) bool {
	return r >= 0 && r <= api.MaxRune && (r < 0xD800 || r > 0xDFFF)
}

// appendScalar is handed scalars alone.
func appendScalar(out []byte, c rune) []byte {
	switch {
	case c < 0x80:
		return append(out, byte(c))
	case c < 0x800:
		return append(out, byte(0xC0+c/64), tail(c))
	case c < 0x10000:
		return append(out, byte(0xE0+c/4096), tail(c/64), tail(c))
	}
	return append(out, byte(0xF0+c/262144), tail(c/4096), tail(c/64), tail(c))
}

func tail(c rune) byte { return byte(0x80 + c%64) }
