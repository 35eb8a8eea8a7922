package label

import (
	"slices"
	"strconv"
	"strings"
	"testing"

	"portcullis/api"
	"portcullis/norm"
	"portcullis/unidata"
)

// What the chapter's words say, done word by word and slowly, so that the tests hold the program to the text.

// hexes reads numbers of the chapter, with blanks between; a minus may stand ahead of one.
func hexes(t *testing.T, s string) []rune {
	t.Helper()
	var l []rune
	for f := range strings.FieldsSeq(s) {
		n, err := strconv.ParseInt(f, 16, 32)
		if err != nil {
			t.Fatal(err)
		}
		l = append(l, rune(n))
	}
	return l
}

const joiningLetters = "ULRDTC"

// joinings tells the joining types of l, as the letters that the chapter has for them.
func joinings(l []rune) string {
	s := ""
	for _, r := range l {
		s += joiningLetters[unidata.Joining(r):][:1]
	}
	return s
}

func wordsMayStand(l []rune, i int) bool {
	if i > 0 && unidata.Class(l[i-1]) == 9 {
		return true
	}
	if l[i] != 0x200C {
		return false
	}
	ahead := strings.TrimRight(joinings(l[:i]), "T")
	behind := strings.TrimLeft(joinings(l[i+1:]), "T")
	return (strings.HasSuffix(ahead, "L") || strings.HasSuffix(ahead, "D")) &&
		(strings.HasPrefix(behind, "R") || strings.HasPrefix(behind, "D"))
}

func wordsJoins(l []rune) bool {
	for i, r := range l {
		if (r == 0x200C || r == 0x200D) && !wordsMayStand(l, i) {
			return false
		}
	}
	return true
}

// bidiNames tells the bidi classes of l, as the chapter has them.
func bidiNames(l []rune) []string {
	names := map[uint8]string{
		api.BidiON: "ON", api.BidiL: "L", api.BidiR: "R", api.BidiAL: "AL", api.BidiEN: "EN",
		api.BidiES: "ES", api.BidiCS: "CS", api.BidiAN: "AN", api.BidiNSM: "NSM", api.BidiBN: "BN",
	}
	var out []string
	for _, r := range l {
		out = append(out, names[unidata.Bidi(r)])
	}
	return out
}

func oneOf(name, names string) bool { return slices.Contains(strings.Fields(names), name) }

func allOf(list []string, names string) bool {
	return !slices.ContainsFunc(list, func(name string) bool { return !oneOf(name, names) })
}

func wordsRight(l []rune) bool {
	return slices.ContainsFunc(bidiNames(l), func(name string) bool { return oneOf(name, "R AL AN") })
}

func wordsBidi(l []rune) bool {
	if len(l) == 0 {
		return true
	}
	names := bidiNames(l)
	first := names[0]
	if !oneOf(first, "L R AL") {
		return false
	}
	last := len(names) - 1
	for names[last] == "NSM" {
		last--
	}
	if oneOf(first, "R AL") {
		both := slices.Contains(names, "EN") && slices.Contains(names, "AN")
		return allOf(names, "R AL AN EN ES CS ON BN NSM") && oneOf(names[last], "R AL EN AN") && !both
	}
	return allOf(names, "L EN ES CS ON BN NSM") && oneOf(names[last], "L EN")
}

func wordsFaults(l []rune, hyphens bool) uint16 {
	var sum uint16
	add := func(bit uint16, is bool) {
		if is {
			sum += bit
		}
	}
	if len(l) == 0 {
		return 0
	}
	add(api.NotNFC, !slices.Equal(norm.NFC(l), l))
	add(api.HyphenMid, hyphens && len(l) > 3 && l[2] == 0x2D && l[3] == 0x2D)
	add(api.HyphenEnd, hyphens && (l[0] == 0x2D || l[len(l)-1] == 0x2D))
	add(api.Prefixed, len(l) > 3 && slices.Equal(l[:4], []rune{0x78, 0x6E, 0x2D, 0x2D}))
	add(api.Dotted, slices.Index(l, 0x2E) >= 0)
	add(api.MarkFirst, unidata.Mark(l[0]))
	add(api.NotValid, slices.ContainsFunc(l, func(r rune) bool { return unidata.Status(r) != api.Valid && unidata.Status(r) != api.Deviation }))
	add(api.JoinWrong, !wordsJoins(l))
	return sum
}

// byWords holds all calls on l to the chapter's words.
func byWords(t *testing.T, l []rune) {
	t.Helper()
	if got, want := Joins(l), wordsJoins(l); got != want {
		t.Errorf("Joins(%x): %v, not %v", l, got, want)
	}
	if got, want := Right(l), wordsRight(l); got != want {
		t.Errorf("Right(%x): %v, not %v", l, got, want)
	}
	if got, want := Bidi(l), wordsBidi(l); got != want {
		t.Errorf("Bidi(%x): %v, not %v", l, got, want)
	}
	for _, hyphens := range []bool{false, true} {
		if got, want := Faults(l, hyphens), wordsFaults(l, hyphens); got != want {
			t.Errorf("Faults(%x, %v): %x, not %x", l, hyphens, got, want)
		}
	}
}
