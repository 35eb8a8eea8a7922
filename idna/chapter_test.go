package idna

import (
	"math/rand/v2"
	"slices"
	"strconv"
	"strings"
	"testing"

	"portcullis/api"
	"portcullis/label"
	"portcullis/norm"
	"portcullis/puny"
	"portcullis/unidata"
	"portcullis/utf"
)

// What the chapter's words say, done word by word and slowly, so that the tests hold the program to the text.

// hexes reads numbers of the chapter, with blanks between; a minus may stand ahead of one.
func hexes(t *testing.T, s string) []rune {
	t.Helper()
	var l []rune
	for f := range strings.FieldsSeq(s) {
		n, err := strconv.ParseInt(f, 16, 32)
		if err != nil {
			t.Fatal(err)
		}
		l = append(l, rune(n))
	}
	return l
}

// bytesOf is the bytes of scalars.
func bytesOf(t *testing.T, l []rune) string {
	t.Helper()
	s, e := utf.Encode(l)
	if e != api.OK {
		t.Fatalf("%x: %v", l, e)
	}
	return s
}

func wordsMap(s string) []rune {
	var out []rune
	for len(s) > 0 {
		r, n, _ := utf.Next(s)
		s = s[n:]
		switch unidata.Status(r) {
		case api.Disallowed, api.Valid, api.Deviation:
			out = append(out, r)
		case api.Mapped:
			out = append(out, unidata.Map(r)...)
		}
	}
	return norm.NFC(out)
}

func wordsSplit(l []rune) [][]rune {
	at := slices.Index(l, 0x2E)
	if at < 0 {
		return [][]rune{l}
	}
	return append([][]rune{l[:at]}, wordsSplit(l[at+1:])...)
}

func wordsOther(l []rune) bool {
	for _, r := range l {
		if r > 0x7F {
			return true
		}
	}
	return false
}

func wordsTaken(l []rune, hyphens bool) ([]rune, uint16) {
	if len(l) < 4 || l[0] != 0x78 || l[1] != 0x6E || l[2] != 0x2D || l[3] != 0x2D {
		return l, label.Faults(l, hyphens)
	}
	if wordsOther(l) {
		return l, api.PunyWrong
	}
	read, e := puny.Decode(string(l[4:]))
	if e != api.OK || len(read) == 0 || !wordsOther(read) {
		return l, api.PunyWrong
	}
	return read, label.Faults(read, hyphens)
}

func wordsProcess(s string, hyphens bool) (labels [][]rune, faults []uint16) {
	for _, l := range wordsSplit(wordsMap(s)) {
		one, fault := wordsTaken(l, hyphens)
		labels, faults = append(labels, one), append(faults, fault)
	}
	for i := range labels {
		if slices.ContainsFunc(labels, label.Right) && !label.Bidi(labels[i]) {
			faults[i] += api.BidiWrong
		}
	}
	return labels, faults
}

func wordsASCII(s string, hyphens, long bool) (string, api.Errno) {
	if len(s) > 4096 {
		return "", api.ErrLong
	}
	labels, faults := wordsProcess(s, hyphens)
	var words []string
	for i, l := range labels {
		word := string(l)
		if faults[i] != 0 {
			return "", api.ErrHost
		}
		if wordsOther(l) {
			w, e := puny.Encode(l)
			if e != api.OK {
				return "", api.ErrHost
			}
			word = "xn--" + w
		}
		words = append(words, word)
	}
	name := strings.Join(words, ".")
	if long && wordsLong(words, name) {
		return "", api.ErrLong
	}
	return name, api.OK
}

func wordsLong(words []string, name string) bool {
	for i, w := range words {
		root := i == len(words)-1 && w == "" && len(words) != 1
		if !root && (len(w) == 0 || len(w) > 63) {
			return true
		}
	}
	if len(words) > 1 && words[len(words)-1] == "" {
		name = name[:len(name)-1]
	}
	return len(name) > 253
}

func wordsUnicode(s string, hyphens bool) (string, bool) {
	if len(s) > 4096 {
		return "", false
	}
	labels, faults := wordsProcess(s, hyphens)
	name, well := "", true
	for i, l := range labels {
		if i > 0 {
			name += "."
		}
		name += string(l)
		well = well && faults[i] == 0
	}
	return name, well
}

// byWords holds all calls on s to the chapter's words.
func byWords(t *testing.T, s string) {
	t.Helper()
	if got, want := Map(s), wordsMap(s); !slices.Equal(got, want) {
		t.Errorf("Map(%q): %x, not %x", s, got, want)
	}
	bothWays := []bool{false, true}
	for _, hyphens := range bothWays {
		labels, faults := Process(s, hyphens)
		wantLabels, wantFaults := wordsProcess(s, hyphens)
		if !sameLists(labels, wantLabels) || !slices.Equal(faults, wantFaults) {
			t.Errorf("Process(%q, %v): %x %x, not %x %x", s, hyphens, labels, faults, wantLabels, wantFaults)
		}
		for _, long := range bothWays {
			got, e := ASCII(s, hyphens, long)
			if want, wantE := wordsASCII(s, hyphens, long); got != want || e != wantE {
				t.Errorf("ASCII(%q, %v, %v): %q %v, not %q %v", s, hyphens, long, got, e, want, wantE)
			}
		}
		got, well := Unicode(s, hyphens)
		if want, wantWell := wordsUnicode(s, hyphens); got != want || well != wantWell {
			t.Errorf("Unicode(%q, %v): %q %v, not %q %v", s, hyphens, got, well, want, wantWell)
		}
	}
}

func sameLists(a, b [][]rune) bool {
	return slices.EqualFunc(a, b, func(x, y []rune) bool { return slices.Equal(x, y) })
}

// texts calls f with every text of at most n of these pieces.
func texts(n int, these []string, f func(s string)) {
	var grow func(s string, left int)
	grow = func(s string, left int) {
		f(s)
		if left == 0 {
			return
		}
		for _, piece := range these {
			grow(s+piece, left-1)
		}
	}
	grow("", n)
}

// picked is a text of n of these pieces; the same seed picks the same.
func picked(seed uint64, n int, these []string) string {
	pick := rand.New(rand.NewPCG(seed, 7))
	var b strings.Builder
	for range n {
		b.WriteString(these[pick.IntN(len(these))])
	}
	return b.String()
}
