package skel

import (
	"math/rand/v2"
	"slices"
	"strconv"
	"strings"
	"testing"

	"portcullis/api"
	"portcullis/norm"
	"portcullis/unidata"
	"portcullis/utf"
)

// What the chapter's words say, done word by word and slowly, so that the tests hold the program to the text.

// chapterNames is P8.3's row of names.
const chapterNames = "Common, Inherited, Latin, Greek, Cyrillic, Hebrew, Arabic, Devanagari, Hiragana, Katakana, Han, Deseret"

// numbers is the scripts in that order, as package api numbers them.
var numbers = []uint8{api.Common, api.Inherited, api.Latin, api.Greek, api.Cyrillic, api.Hebrew, api.Arabic, api.Devanagari, api.Hiragana, api.Katakana, api.Han, api.Deseret}

// text is the bytes of the numbers of the chapter, with blanks between.
func text(t *testing.T, s string) string {
	t.Helper()
	var l []rune
	for f := range strings.FieldsSeq(s) {
		n, err := strconv.ParseInt(f, 16, 32)
		if err != nil {
			t.Fatal(err)
		}
		l = append(l, rune(n))
	}
	out, e := utf.Encode(l)
	if e != api.OK {
		t.Fatalf("%s: %v", s, e)
	}
	return out
}

// standing is what stands in s.
func standing(s string) []rune {
	var l []rune
	for len(s) > 0 {
		r, n, _ := utf.Next(s)
		l, s = append(l, r), s[n:]
	}
	return l
}

func wordsSkeleton(t *testing.T, s string) string {
	t.Helper()
	l := norm.NFD(standing(s))
	for _, gone := range []rune{0x00AD, 0x200C, 0x200D} {
		l = slices.DeleteFunc(l, func(r rune) bool { return r == gone })
	}
	var like []rune
	for _, r := range l {
		like = slices.Concat(like, unidata.Like(r))
	}
	out, e := utf.Encode(norm.NFD(like))
	if e != api.OK {
		t.Fatalf("%q: %v", s, e)
	}
	return out
}

func wordsScripts(s string) []uint8 {
	var l []uint8
	for _, r := range standing(s) {
		if script := unidata.Script(r); script != api.Common && script != api.Inherited {
			l = append(l, script)
		}
	}
	slices.Sort(l)
	return slices.Compact(l)
}

func wordsLevel(s string) uint8 {
	below := true
	for _, r := range standing(s) {
		below = below && r < 0x80
	}
	if below {
		return api.LevelASCII
	}
	l := wordsScripts(s)
	if len(l) <= 1 {
		return api.LevelOne
	}
	among := true
	for _, script := range l {
		among = among && (script == api.Latin || script == api.Hiragana || script == api.Katakana || script == api.Han)
	}
	if among {
		return api.LevelHigh
	}
	if len(l) == 2 && slices.Contains(l, api.Latin) && !slices.Contains(l, api.Greek) && !slices.Contains(l, api.Cyrillic) {
		return api.LevelMiddle
	}
	return api.LevelAny
}

// byWords holds all calls on s to the chapter's words.
func byWords(t *testing.T, s string) {
	t.Helper()
	skeleton(t, s, wordsSkeleton(t, s))
	if got, want := Scripts(s), wordsScripts(s); !slices.Equal(got, want) {
		t.Errorf("Scripts(%+q): %v, not %v", s, got, want)
	}
	level(t, s, wordsLevel(s))
}

// skeleton holds Skeleton to what it must answer.
func skeleton(t *testing.T, s, want string) {
	t.Helper()
	if got := Skeleton(s); got != want {
		t.Errorf("Skeleton(%+.90q): %+.90q, not %+.90q", s, got, want)
	}
}

// scripts holds Scripts to what it must answer.
func scripts(t *testing.T, s string, want ...uint8) {
	t.Helper()
	if got := Scripts(s); !slices.Equal(got, want) {
		t.Errorf("Scripts(%+.90q): %v, not %v", s, got, want)
	}
}

// level holds Level to what it must answer.
func level(t *testing.T, s string, want uint8) {
	t.Helper()
	if got := Level(s); got != want {
		t.Errorf("Level(%+.90q): %d, not %d", s, got, want)
	}
}

// alike holds Alike, either way round, to what it must answer.
func alike(t *testing.T, a, b string, want bool) {
	t.Helper()
	if Alike(a, b) != want || Alike(b, a) != want {
		t.Errorf("Alike(%+.90q, %+.90q): %v and %v, not %v", a, b, Alike(a, b), Alike(b, a), want)
	}
}

// texts calls f with every text of at most n of these pieces.
func texts(n int, these []string, f func(s string)) {
	var grow func(s string, left int)
	grow = func(s string, left int) {
		f(s)
		if left == 0 {
			return
		}
		for _, piece := range these {
			grow(s+piece, left-1)
		}
	}
	grow("", n)
}

// picked is a text of n of these pieces; the same seed picks the same.
func picked(seed uint64, n int, these []string) string {
	pick := rand.New(rand.NewPCG(seed, 8))
	var b strings.Builder
	for range n {
		b.WriteString(these[pick.IntN(len(these))])
	}
	return b.String()
}
