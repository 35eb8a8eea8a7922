package label

import (
	"portcullis/api"
	"portcullis/unidata"
)

// Sets of bidi classes, a bit for each.
const (
	rightLetters uint16 = 1<<api.BidiR | 1<<api.BidiAL
	bothNumbers  uint16 = 1<<api.BidiEN | 1<<api.BidiAN

	// besides may stand among letters of either direction.
	besides uint16 = 1<<api.BidiEN | 1<<api.BidiES | 1<<api.BidiCS | 1<<api.BidiON | 1<<api.BidiBN | 1<<api.BidiNSM

	amongRight uint16 = rightLetters | 1<<api.BidiAN | besides
	amongLeft  uint16 = 1<<api.BidiL | besides

	endsRight uint16 = rightLetters | bothNumbers
	endsLeft  uint16 = 1<<api.BidiL | 1<<api.BidiEN
)

// Right tells whether l goes right.
func Right(l []rune) bool { return directions(l)&(rightLetters|1<<api.BidiAN) != 0 }

// Bidi tells whether the directions of l stand well.
func Bidi(l []rune) bool {
	if len(l) == 0 {
		return true
	}
	all, first, last := directions(l), direction(l[0]), lastDirection(l)
	switch {
	case first&rightLetters != 0:
		return all&^amongRight == 0 && last&endsRight != 0 && all&bothNumbers != bothNumbers
	case first == 1<<api.BidiL:
		return all&^amongLeft == 0 && last&endsLeft != 0
	}
	return false
}

// direction answers r's bidi class, as a set of one.
func direction(r rune) uint16 { return 1 << unidata.Bidi(r) }

func directions(l []rune) uint16 {
	var all uint16
	for _, r := range l {
		all |= direction(r)
	}
	return all
}

// lastDirection answers the direction of the last one that is not NSM, or no direction, if there is none.
func lastDirection(l []rune) uint16 {
	for r := range onFrom(l, len(l), -1) {
		if d := direction(r); d != 1<<api.BidiNSM {
			return d
		}
	}
	return 0
}
