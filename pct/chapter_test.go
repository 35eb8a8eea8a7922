package pct

import (
	"fmt"
	"math/rand/v2"
	"regexp"
	"strconv"
	"strings"
	"testing"

	"portcullis/api"
	"portcullis/utf"
)

// What the chapter's words say, done word by word and slowly, so that the tests hold the program to the text.

// sets is the chapter's sets, each with all its signs written out, those that it has of lesser ones too.
var sets = []struct {
	set   uint8
	name  string
	signs string
}{
	{api.SetControl, "SetControl", ""},
	{api.SetFragment, "SetFragment", " \"<>`"},
	{api.SetQuery, "SetQuery", " \"#<>"},
	{api.SetSpecial, "SetSpecial", " \"#<>'"},
	{api.SetPath, "SetPath", " \"#<>?^`{}"},
	{api.SetUser, "SetUser", " \"#<>?^`{}/:;=@[\\]|"},
	{api.SetComponent, "SetComponent", " \"#<>?^`{}/:;=@[\\]|$%&+,"},
}

// noSet is some numbers of sets that are none.
var noSet = []uint8{api.SetComponent + 1, 8, 9, 127, 128, 254, 255}

func wordsIn(r rune, set uint8) bool {
	if r < 0 || r > 0x10FFFF || int(set) >= len(sets) {
		return false
	}
	return r < 0x20 || r > 0x7E || strings.ContainsRune(sets[set].signs, r)
}

func wordsEncode(t *testing.T, s string, set uint8) string {
	t.Helper()
	var b strings.Builder
	for _, r := range utf.Decode(s) {
		its, e := utf.Encode([]rune{r})
		if e != api.OK {
			t.Fatalf("%q: %v", s, e)
		}
		if wordsIn(r, set) {
			for _, c := range []byte(its) {
				fmt.Fprintf(&b, "%%%02X", c)
			}
		} else {
			b.WriteString(its)
		}
	}
	return b.String()
}

var triple = regexp.MustCompile("%[0-9A-Fa-f][0-9A-Fa-f]")

func wordsDecode(t *testing.T, s string) string {
	t.Helper()
	return triple.ReplaceAllStringFunc(s, func(it string) string {
		n, err := strconv.ParseUint(it[1:], 16, 8)
		if err != nil {
			t.Fatal(err)
		}
		return string([]byte{byte(n)})
	})
}

// byWords holds all calls on s to the chapter's words, and to what follows from them.
func byWords(t *testing.T, s string) {
	t.Helper()
	decoded(t, s, wordsDecode(t, s))
	for _, set := range everySet() {
		encoded(t, s, set, wordsEncode(t, s, set))
	}
	follows(t, s)
}

// follows holds s to P9.4.
func follows(t *testing.T, s string) {
	t.Helper()
	decoded(t, Encode(s, api.SetComponent), utf.Clean(s))
	for _, set := range everySet() {
		if set != api.SetComponent {
			once := Encode(s, set)
			encoded(t, once, set, once)
		}
	}
}

// everySet is each set, and some numbers that are none.
func everySet() []uint8 {
	var l []uint8
	for _, c := range sets {
		l = append(l, c.set)
	}
	return append(l, noSet...)
}

// in holds In to what it must answer.
func in(t *testing.T, r rune, set uint8, want bool) {
	t.Helper()
	if got := In(r, set); got != want {
		t.Errorf("In(%x, %d): %v", r, set, got)
	}
}

// encoded holds Encode to what it must answer.
func encoded(t *testing.T, s string, set uint8, want string) {
	t.Helper()
	if got := Encode(s, set); got != want {
		t.Errorf("Encode(%.90q, %d): %.90q, not %.90q", s, set, got, want)
	}
}

// decoded holds Decode to what it must answer.
func decoded(t *testing.T, s, want string) {
	t.Helper()
	if got := Decode(s); got != want {
		t.Errorf("Decode(%.90q): %.90q, not %.90q", s, got, want)
	}
}

// texts calls f with every text of at most n of these pieces.
func texts(n int, these []string, f func(s string)) {
	var grow func(s string, left int)
	grow = func(s string, left int) {
		f(s)
		if left == 0 {
			return
		}
		for _, piece := range these {
			grow(s+piece, left-1)
		}
	}
	grow("", n)
}

// picked is a text of n of these pieces; the same seed picks the same.
func picked(seed uint64, n int, these []string) string {
	pick := rand.New(rand.NewPCG(seed, 9))
	var b strings.Builder
	for range n {
		b.WriteString(these[pick.IntN(len(these))])
	}
	return b.String()
}
