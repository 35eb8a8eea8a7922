package skel

import (
	"iter"
	"math/bits"
	"slices"

	"portcullis/api"
	"portcullis/unidata"
	"portcullis/utf"
)

// firstOther is the least code point that is not ASCII.
const firstOther rune = 0x80

// set is scripts, each one as the bit of its number.
type set uint16

const (
	// everybodys are no scripts of a text: they go with any.
	everybodys set = 1<<api.Common | 1<<api.Inherited

	latin    set = 1 << api.Latin
	japanese set = latin | 1<<api.Hiragana | 1<<api.Katakana | 1<<api.Han

	// likeLatin have so many letters that look like Latin ones that they are not well beside these.
	likeLatin set = 1<<api.Greek | 1<<api.Cyrillic
)

// Scripts answers the scripts of s, rising.
func Scripts(s string) []uint8 {
	var out []uint8
	for script := range gathered(utf.Decode(s)).all() {
		out = append(out, script)
	}
	return out
}

// Level answers how s mixes scripts.
func Level(s string) uint8 {
	l := utf.Decode(s)
	scripts := gathered(l)
	switch {
	case !slices.ContainsFunc(l, func(r rune) bool { return r >= firstOther }):
		return api.LevelASCII
	case scripts.count() <= 1:
		return api.LevelOne
	case scripts&^japanese == 0:
		return api.LevelHigh
	case scripts.count() == 2 && scripts&latin != 0 && scripts&likeLatin == 0:
		return api.LevelMiddle
	}
	return api.LevelAny
}

// gathered answers the scripts that l is written in.
func gathered(l []rune) set {
	var scripts set
	for _, r := range l {
		scripts |= 1 << unidata.Script(r)
	}
	return scripts &^ everybodys
}

func (s set) count() int { return bits.OnesCount16(uint16(s)) }

// all tells the scripts of s, rising.
func (s set) all() iter.Seq[uint8] {
	return func(yield func(uint8) bool) {
		for script, left := uint8(0), s; left != 0; script, left = script+1, left>>1 {
			if left&1 != 0 && !yield(script) {
				return
			}
		}
	}
}
