package label

import (
	"math"
	"math/rand/v2"
	"slices"
	"testing"

	"portcullis/api"
	"portcullis/norm"
	"portcullis/unidata"
)

const top rune = api.MaxRune

// wrong is numbers that are no code point, or no scalar.
var wrong = []rune{-1, -0x2D, -0x2E, -0x61, -0x200C, math.MinInt32, math.MinInt32 + 0x2D, top + 1, top + 0x2E, math.MaxInt32, 0xD800, 0xDBFF, 0xDC00, 0xDFFF}

// all is some of all kinds: each bidi class, each joining type, marks of each kind, what is not put together, what is not valid, wrong numbers.
var all = []rune{
	'a', 'x', 'n', '-', '.', '1', '_', 'A', 0xDF, 0x3C2, 0xE1, 0x301, 0x327, 0xAD, 0x5D0, 0x627, 0x628, 0x644, 0x64B, 0x660, 0x6F1,
	0x915, 0x93F, 0x94D, 0x200C, 0x200D, 0x212B, 0x2603, 0x3002, 0x4E00, 0x1F600, 0x305, 0x200E, -1, 0xD800, top + 1,
}

// lists calls f with every list of at most n numbers of these.
func lists(n int, these []rune, f func(l []rune)) {
	var grow func(l []rune)
	grow = func(l []rune) {
		f(l)
		if len(l) == n {
			return
		}
		for _, r := range these {
			grow(append(slices.Clip(l), r))
		}
	}
	grow(nil)
}

// picked is a list of n of these; the same seed picks the same.
func picked(seed uint64, n int, these []rune) []rune {
	pick := rand.New(rand.NewPCG(seed, 6))
	l := make([]rune, n)
	for i := range l {
		l[i] = these[pick.IntN(len(these))]
	}
	return l
}

// told holds one call to a row of lists and what it must answer of each.
func told(t *testing.T, name string, call func([]rune) bool, cases map[string]bool) {
	t.Helper()
	for in, want := range cases {
		if got := call(hexes(t, in)); got != want {
			t.Errorf("%s(%s): %v, not %v", name, in, got, want)
		}
	}
}

// faults holds Faults to what it must answer with hyphens and without.
func faults(t *testing.T, l []rune, with, without uint16) {
	t.Helper()
	if got := Faults(l, true); got != with {
		t.Errorf("Faults(%x, true): %x, not %x", l, got, with)
	}
	if got := Faults(l, false); got != without {
		t.Errorf("Faults(%x, false): %x, not %x", l, got, without)
	}
}

func TestP6_1Examples(t *testing.T) {
	told(t, "Joins", Joins, map[string]bool{
		"915 94D 200D": true,
		"61 200D":      false,
		"628 200C 628": true,
		"627 200C 628": false,
	})
	told(t, "Right", Right, map[string]bool{"5D0": true})
	told(t, "Bidi", Bidi, map[string]bool{
		"5D0 31":     true,
		"31 5D0":     false,
		"5D0 61":     false,
		"5D0 31 660": false,
	})
}

func TestP6_1NoneAtAll(t *testing.T) {
	for _, l := range [][]rune{nil, {}} {
		if !Joins(l) || Right(l) || !Bidi(l) {
			t.Errorf("of nothing: %v %v %v", Joins(l), Right(l), Bidi(l))
		}
	}
}

func TestP6_1Joiners(t *testing.T) {
	told(t, "Joins", Joins, map[string]bool{
		// none in it
		"61":          true,
		"628 627":     true,
		"915 94D":     true,
		"200B":        true,
		"200E":        true,
		"-200C -200D": true,
		// the first and the last one
		"200C":                 false,
		"200D":                 false,
		"200C 628":             false,
		"200D 628":             false,
		"200C 94D":             false,
		"200D 94D":             false,
		"64B 200C 628":         false,
		"628 200C":             false,
		"628 200C 64B":         false,
		"628 200D":             false,
		"915 94D 200C":         true,
		"94D 200C":             true,
		"94D 200D":             true,
		"915 94D 200C 61":      true,
		"628 200C 628 200C":    false,
		"200C 628 200C 628":    false,
		"94D 200D 94D 61":      true,
		"94D 200D 94D 200C":    true,
		"94D 200D 61 200C":     false,
		"94D 200D 61 200D 94D": false,
		// two side by side
		"94D 200C 200C":     false,
		"94D 200D 200D":     false,
		"94D 200C 200D":     false,
		"94D 200D 200C":     false,
		"628 200C 200C 628": false,
		"628 200C 200D 628": false,
		"628 200D 200C 628": false,
		"628 200D 200D 628": false,
		// the class 9 stands directly ahead, or not
		"94D 301 200D":        false,
		"94D 61 200D":         false,
		"94D 64B 200C":        false,
		"94D 93F 200C":        false,
		"301 200D":            false,
		"64B 200D":            false,
		"628 94D 301 200C 61": false,
		// what joins on both sides, with any number of T between
		"628 200C 627":                              true,
		"628 200C 62F":                              true,
		"627 200C 627":                              false,
		"627 200C 62F":                              false,
		"61 200C 628":                               false,
		"628 200C 61":                               false,
		"5D0 200C 5D0":                              false,
		"628 64B 200C 628":                          true,
		"628 200C 64B 628":                          true,
		"628 64B 64B 301 200C 64B 300 94D 627":      true,
		"628 301 327 64B 200C 323 627":              true,
		"627 301 327 64B 200C 323 627":              false,
		"628 301 327 64B 200C 323 61":               false,
		"628 64B 200C 64B 200C 628":                 false,
		"628 61 64B 200C 628":                       false,
		"628 200C 64B 61 628":                       false,
		"64B 64B 200C 64B 628":                      false,
		"628 93F 200C 628":                          false,
		"628 200C 93F 628":                          false,
		"628 200C 628 200C 627":                     true,
		"628 200C 627 200C 627":                     false,
		"62A 200C 633 200C 644 200C 64A 200C 648":   true,
		"62A 200C 633 200C 644 200C 648 200C 64A":   false,
		"628 200C 200B 628":                         false,
		"628 200C 110000 628":                       false,
		"628 -1 200C 628":                           false,
		"628 D800 200C 628":                         false,
		"628 200D 627":                              false,
		"628 64B 200D 64B 627":                      false,
		"628 94D 200D 627":                          true,
		"61 94D 200C 61 94D 200D 61 628 200C 627":   true,
		"61 94D 200C 61 94D 200D 61 628 200C 61":    false,
		"61 94D 200C 61 94D 200D 200D 628 200C 62F": false,
	})
}

// 200C with so many T ahead of it and behind it, and who stands beyond them.
func TestP6_1JoinersAmongManyT(t *testing.T) {
	long := func(first rune, ahead int, r rune, behind int, last rune) []rune {
		return slices.Concat([]rune{first}, slices.Repeat([]rune{0x64B}, ahead), []rune{r}, slices.Repeat([]rune{0x301}, behind), []rune{last})
	}
	for _, n := range []int{0, 1, 2, 3, 62, 1000} {
		for _, m := range []int{0, 1, 2, 3, 62, 1000} {
			for _, first := range []rune{0x628, 0x627, 'a'} {
				for _, last := range []rune{0x628, 0x627, 'a'} {
					l := long(first, n, 0x200C, m, last)
					if got, want := Joins(l), first == 0x628 && last != 'a'; got != want {
						t.Errorf("%x, %d, 200C, %d, %x: %v", first, n, m, last, got)
					}
					if Joins(long(first, n, 0x200D, m, last)) {
						t.Errorf("%x, %d, 200D, %d, %x", first, n, m, last)
					}
				}
			}
		}
	}
}

// A joiner behind each code point and ahead of each.
func TestP6_1JoinersBesideEach(t *testing.T) {
	nines, ahead, behind := 0, 0, 0
	for r := rune(0); r <= top; r++ {
		if Joins([]rune{r, 0x200D}) {
			nines++
		}
		if unidata.Class(r) != 9 && Joins([]rune{r, 0x200C, 0x628}) {
			ahead++
		}
		if Joins([]rune{0x628, 0x200C, r}) {
			behind++
		}
	}
	// D: 628, 62A, 633, 644 to 646, 64A; R: 627, 62F, 648; nobody is L
	if nines != 1 || ahead != 7 || behind != 10 {
		t.Errorf("behind %d of the class 9, behind %d that join, ahead of %d", nines, ahead, behind)
	}
}

func TestP6_1Right(t *testing.T) {
	told(t, "Right", Right, map[string]bool{
		"5EA":          true,
		"627":          true,
		"660":          true,
		"61 5D0":       true,
		"5D0 61":       true,
		"61 62 628 63": true,
		"31 669":       true,
		"61":           false,
		"31":           false,
		"6F1":          false,
		"2D":           false,
		"2E":           false,
		"2603":         false,
		"64B":          false,
		"200C":         false,
		"61 64B 31":    false,
		"200F":         false,
		"5EB":          false,
		"5CF":          false,
		"-5D0":         false,
		"110000":       false,
	})
}

func TestP6_1RightOfEach(t *testing.T) {
	for r := rune(-1); r <= top+1; r++ {
		class := unidata.Bidi(r)
		if got, want := Right([]rune{r}), class == api.BidiR || class == api.BidiAL || class == api.BidiAN; got != want {
			t.Errorf("Right(%x): %v", r, got)
		}
		if Bidi([]rune{r}) != (class == api.BidiL || class == api.BidiR || class == api.BidiAL) {
			t.Errorf("Bidi(%x): %v", r, Bidi([]rune{r}))
		}
	}
}

func TestP6_1Directions(t *testing.T) {
	told(t, "Bidi", Bidi, map[string]bool{
		// the first one: L, R, AL, and each other class
		"61": true, "5D0": true, "627": true,
		"31": false, "2D": false, "2E": false, "2603": false, "660": false, "64B": false, "200C": false, "305": false,
		"31 61": false, "2D 61": false, "2E 61": false, "2603 61": false, "64B 61": false, "200D 61": false, "305 61": false, "-1 61": false,
		"31 5D0": false, "2D 5D0": false, "2E 5D0": false, "2603 5D0": false, "660 5D0": false, "64B 5D0": false, "200C 5D0": false,
		"660 627": false, "6F1 627": false, "AD 627": false,
		// among those that go right
		"5D0 5D1 627": true, "627 5D0": true,
		"5D0 660 5D0": true, "5D0 31 5D0": true, "5D0 2D 5D0": true, "5D0 2E 5D0": true, "5D0 2603 5D0": true, "5D0 200C 5D0": true, "5D0 64B 5D0": true, "5D0 305 5D0": true,
		"5D0 61": false, "5D0 61 5D0": false, "627 4E00 628": false, "627 93F 628": false,
		// the last one that is not NSM
		"5D0 31": true, "5D0 660": true, "627 31": true, "627 669": true, "627 6F9": true,
		"5D0 2D": false, "5D0 2E": false, "5D0 2603": false, "5D0 200C": false, "5D0 305": false, "5D0 110000": false,
		"5D0 64B": true, "5D0 301 64B 94D": true, "5D0 31 64B": true, "5D0 660 64B 64B": true, "627 64B": true,
		"5D0 2D 64B": false, "5D0 2E 64B": false, "5D0 2603 64B": false, "5D0 200C 64B 64B": false,
		"5D0 31 2D": false, "5D0 2D 31": true, "5D0 64B 2D": false, "5D0 64B 2D 64B 31 64B": true,
		// EN and AN, each alone and both
		"5D0 31 32": true, "5D0 660 661": true, "5D0 31 6F1": true,
		"5D0 31 660": false, "5D0 660 31": false, "5D0 31 5D0 660": false, "627 660 627 6F0 627": false, "627 31 64B 660 64B": false,
		// those that are L
		"61 62": true, "61 31": true, "61 6F1": true, "915 93F": true, "4E00 61": true,
		"61 31 62": true, "61 2D 62": true, "61 2E 62": true, "61 2603 62": true, "61 200C 62": true, "61 301 62": true, "61 305 62": true,
		"61 5D0": false, "61 627": false, "61 660": false, "61 5D0 62": false, "61 660 62": false, "61 627 62": false, "61 31 660": false,
		"61 2D": false, "61 2E": false, "61 2603": false, "61 200C": false, "61 305": false, "61 D800": false,
		"61 301": true, "61 301 301 94D": true, "61 31 301": true,
		"61 2D 301": false, "61 2E 301": false, "61 2603 301": false, "61 200C 301 301": false,
		"61 31 2D": false, "61 2D 31": true, "61 301 2D": false, "61 301 2D 301 62 301": true,
	})
}

func TestP6_2Examples(t *testing.T) {
	for _, c := range []struct {
		l       []rune
		hyphens bool
		want    uint16
	}{
		{[]rune("ab--c"), true, api.HyphenMid},
		{[]rune("-a"), true, api.HyphenEnd},
		{[]rune("-a"), false, 0},
		{[]rune("xn--a"), false, api.Prefixed},
		{[]rune("A"), false, api.NotValid},
		{[]rune{0x301, 0x61}, false, api.MarkFirst},
	} {
		if got := Faults(c.l, c.hyphens); got != c.want {
			t.Errorf("Faults(%x, %v): %x, not %x", c.l, c.hyphens, got, c.want)
		}
	}
}

func TestP6_2NoneAtAll(t *testing.T) {
	faults(t, nil, 0, 0)
	faults(t, []rune{}, 0, 0)
	faults(t, []rune{'-', '.', -1}[:0], 0, 0)
}

func TestP6_2Faultless(t *testing.T) {
	for _, s := range []string{
		"a", "example", "a-b", "a--b", "ab-c-d", "a1", "1a", "1", "0", "a_b", "_", "xn-a", "xna--", "stra\u00dfe",
		"b\u00fccher", "\u00e1", "\u1e69", "fa\u00df", "\u03c3\u03b1\u03c2", "\u043f\u0440\u0438\u043c\u0435\u0440", "\u05d0\u05d1\u05d2", "\u0628\u0627", "\u0628\u200c\u0628",
		"\u0915\u094d\u200d\u0937", "\u0915\u094d\u200c\u0937", "\u4e00\u4e8c", "\u3042\u30a2\u30fc", "\u2603", "\U0001f600", "\U00010428",
		"a\u0430\u03b1", "a\u05d0", "1-\u4e00-a", "a\u0327", "a\u0923",
	} {
		l := []rune(s)
		if got := Faults(l, false); got != 0 {
			t.Errorf("Faults(%+q, false): %x", s, got)
		}
	}
	faults(t, []rune("abc"), 0, 0)
	faults(t, []rune("a-b-c"), 0, 0)
	faults(t, []rune("b\u00fccher"), 0, 0)
}

func TestP6_2Hyphens(t *testing.T) {
	for _, c := range []struct {
		l             string
		with, without uint16
	}{
		{"-", api.HyphenEnd, 0},
		{"--", api.HyphenEnd, 0},
		{"---", api.HyphenEnd, 0},
		{"----", api.HyphenEnd | api.HyphenMid, 0},
		{"-----", api.HyphenEnd | api.HyphenMid, 0},
		{"a", 0, 0},
		{"a-", api.HyphenEnd, 0},
		{"-a", api.HyphenEnd, 0},
		{"-aa", api.HyphenEnd, 0},
		{"a-a", 0, 0},
		{"aa-", api.HyphenEnd, 0},
		{"a--", api.HyphenEnd, 0},
		{"-aaa", api.HyphenEnd, 0},
		{"a-aa", 0, 0},
		{"aa-a", 0, 0},
		{"aaa-", api.HyphenEnd, 0},
		{"a--a", 0, 0},
		{"aa--", api.HyphenEnd | api.HyphenMid, 0},
		{"a---", api.HyphenEnd | api.HyphenMid, 0},
		{"a---a", api.HyphenMid, 0},
		{"aa--a", api.HyphenMid, 0},
		{"aaa--a", 0, 0},
		{"a--aa", 0, 0},
		{"-a--a", api.HyphenEnd | api.HyphenMid, 0},
		{"a\u00e1--a", api.HyphenMid, 0},
		{"\u4e00\u4e8c--\u4e00", api.HyphenMid, 0},
		{"\u4e00--\u4e00", 0, 0},
		{"-\u4e00", api.HyphenEnd, 0},
		{"\u4e00-", api.HyphenEnd, 0},
	} {
		faults(t, []rune(c.l), c.with, c.without)
	}
	// what is like a hyphen is none
	for _, r := range []rune{0xFF0D, 0x2010, 0xAD, '_'} {
		if got := Faults([]rune{r, 'a', r, r, 'a', r}, true) &^ api.NotValid; got != 0 {
			t.Errorf("%x for hyphens: %x", r, got)
		}
	}
}

func TestP6_2Prefix(t *testing.T) {
	for _, c := range []struct {
		l             string
		with, without uint16
	}{
		{"x", 0, 0},
		{"xn", 0, 0},
		{"xn-", api.HyphenEnd, 0},
		{"xn--", api.Prefixed | api.HyphenMid | api.HyphenEnd, api.Prefixed},
		{"xn--a", api.Prefixed | api.HyphenMid, api.Prefixed},
		{"xn---", api.Prefixed | api.HyphenMid | api.HyphenEnd, api.Prefixed},
		{"xn--\u00fc", api.Prefixed | api.HyphenMid, api.Prefixed},
		{"xn-a", 0, 0},
		{"xn-a-", api.HyphenEnd, 0},
		{"xm--a", api.HyphenMid, 0},
		{"yn--a", api.HyphenMid, 0},
		{"axn--a", 0, 0},
		{"-xn--a", api.HyphenEnd, 0},
		{"Xn--a", api.HyphenMid | api.NotValid, api.NotValid},
		{"xN--a", api.HyphenMid | api.NotValid, api.NotValid},
		{"XN--A", api.HyphenMid | api.NotValid, api.NotValid},
		{"\uff58n--a", api.HyphenMid | api.NotValid, api.NotValid},
	} {
		faults(t, []rune(c.l), c.with, c.without)
	}
}

func TestP6_2Dots(t *testing.T) {
	for _, s := range []string{".", "..", ".a", "a.", "a.b", ".a.", "ab.c", "a.bc", "\u4e00.\u4e00"} {
		faults(t, []rune(s), api.Dotted, api.Dotted)
	}
	for n := range 5 {
		for at := range n + 1 {
			l := slices.Insert(slices.Repeat([]rune{'a'}, n), at, '.')
			faults(t, l, api.Dotted, api.Dotted)
		}
	}
	// what becomes a dot is none yet, but not valid
	for _, r := range []rune{0x3002, 0xFF0E, 0xFF61} {
		faults(t, []rune{'a', r, 'b'}, api.NotValid, api.NotValid)
	}
	faults(t, []rune{'a', -0x2E}, api.NotValid, api.NotValid)
}

func TestP6_2Marks(t *testing.T) {
	for r := rune(0); r <= top; r++ {
		if got, want := Faults([]rune{r, 'a'}, false)&api.MarkFirst != 0, unidata.Mark(r); got != want {
			t.Errorf("%x is the first one: %v", r, got)
		}
	}
	for _, m := range []rune{0x300, 0x30A, 0x323, 0x328, 0x64B, 0x93F, 0x94D} {
		faults(t, []rune{m}, api.MarkFirst, api.MarkFirst)
		faults(t, []rune{m, 'b'}, api.MarkFirst, api.MarkFirst)
		faults(t, []rune{'b', m}, 0, 0)
		faults(t, []rune{'b', m, 'b'}, 0, 0)
		faults(t, []rune{'1', m}, 0, 0)
	}
	faults(t, []rune{0x305, 'a'}, api.NotValid, api.NotValid)
}

func TestP6_2Valid(t *testing.T) {
	for r := rune(-3); r <= top+3; r++ {
		s := unidata.Status(r)
		if got, want := Faults([]rune{r}, false)&api.NotValid == 0, s == api.Valid || s == api.Deviation; got != want {
			t.Errorf("%x is valid: %v", r, got)
		}
	}
	for _, w := range slices.Concat(wrong, []rune{'A', 'Z', ' ', '%', '/', 0, 0x7F, 0xAD, 0x391, 0x410, 0x3002, 0xFF21, 0x378, 0x305, 0x10FFFF}) {
		for at := range 3 {
			l := slices.Insert([]rune{'a', 'b'}, at, w)
			faults(t, l, api.NotValid, api.NotValid)
		}
		faults(t, []rune{w}, api.NotValid, api.NotValid)
	}
	for _, d := range []rune{0xDF, 0x3C2} {
		faults(t, []rune{'a', d, 'b'}, 0, 0)
		faults(t, []rune{d}, 0, 0)
	}
	faults(t, []rune{0x94D, 0x200C}, api.MarkFirst, api.MarkFirst)
}

func TestP6_2NotTogether(t *testing.T) {
	for _, c := range []struct {
		l    string
		want uint16
	}{
		{"61 301", api.NotNFC},
		{"E1", 0},
		{"62 301", 0},
		{"73 323 307", api.NotNFC},
		{"1E61 323", api.NotNFC},
		{"1E69", 0},
		{"61 301 327", api.NotNFC},
		{"62 301 327", api.NotNFC},
		{"62 327 301", 0},
		{"435 308", api.NotNFC},
		{"212B", api.NotNFC | api.NotValid},
		{"41 30A", api.NotNFC | api.NotValid},
		{"301 327", api.NotNFC | api.MarkFirst},
		{"327 301", api.MarkFirst},
		{"-1 301 327", api.NotNFC | api.NotValid},
	} {
		faults(t, hexes(t, c.l), c.want, c.want)
	}
}

func TestP6_2Joiners(t *testing.T) {
	for in, want := range map[string]uint16{
		"61 200D":      api.JoinWrong,
		"200C":         api.JoinWrong,
		"200D 61":      api.JoinWrong,
		"628 200C 628": 0,
		"627 200C 628": api.JoinWrong,
		"915 94D 200D": 0,
		"94D 200D":     api.MarkFirst,
		"64B 200D":     api.MarkFirst | api.JoinWrong,
	} {
		faults(t, hexes(t, in), want, want)
	}
}

// Directions and what stands behind the prefix are not asked here.
func TestP6_2OthersAreNotAsked(t *testing.T) {
	for _, in := range []string{"5D0 61", "31 5D0", "5D0 31 660", "61 5D0 62", "61 2D 5D0", "660"} {
		faults(t, hexes(t, in), 0, 0)
	}
	faults(t, []rune("xn--0"), api.Prefixed|api.HyphenMid, api.Prefixed)
	faults(t, []rune("xn--\U0001f600"), api.Prefixed|api.HyphenMid, api.Prefixed)
}

func TestP6_2Several(t *testing.T) {
	for _, c := range []struct {
		l             []rune
		with, without uint16
	}{
		{[]rune("-."), api.HyphenEnd | api.Dotted, api.Dotted},
		{[]rune("xn--A.-"), api.HyphenMid | api.HyphenEnd | api.Prefixed | api.Dotted | api.NotValid, api.Prefixed | api.Dotted | api.NotValid},
		{hexes(t, "78 6E 2D 2D 61 301 2E 41 200D 2D"), api.NotNFC | api.HyphenMid | api.HyphenEnd | api.Prefixed | api.Dotted | api.NotValid | api.JoinWrong, api.NotNFC | api.Prefixed | api.Dotted | api.NotValid | api.JoinWrong},
		{hexes(t, "301 327 2D 2D 2E 41 200C 2D"), api.NotNFC | api.HyphenMid | api.HyphenEnd | api.Dotted | api.MarkFirst | api.NotValid | api.JoinWrong, api.NotNFC | api.Dotted | api.MarkFirst | api.NotValid | api.JoinWrong},
		{hexes(t, "200D 200C -1 2E"), api.Dotted | api.NotValid | api.JoinWrong, api.Dotted | api.NotValid | api.JoinWrong},
		{hexes(t, "93F 200D 2D"), api.HyphenEnd | api.MarkFirst | api.JoinWrong, api.MarkFirst | api.JoinWrong},
	} {
		faults(t, c.l, c.with, c.without)
	}
}

func TestP6_2ByTheWords(t *testing.T) {
	lists(3, all, func(l []rune) { byWords(t, l) })
	lists(6, []rune{'x', 'n', '-', '.'}, func(l []rune) { byWords(t, l) })
	lists(6, []rune{0x627, 0x628, 0x64B, 0x94D, 0x200C, 0x200D}, func(l []rune) { byWords(t, l) })
	lists(5, []rune{'a', '1', '-', 0x5D0, 0x660, 0x64B, 0x200C}, func(l []rune) { byWords(t, l) })
	for seed := range uint64(5000) {
		byWords(t, picked(seed, int(seed%30), all))
		byWords(t, picked(seed, int(seed%30), []rune{0x628, 0x64B, 0x94D, 0x200C, 0x627}))
		byWords(t, append([]rune{0x5D0}, picked(seed, int(seed%12), []rune{0x5D0, 0x627, '1', '-', 0x64B, 0x2603})...))
	}
}

// Lists far longer than a label may be are told soon.
func TestP6_2LongLists(t *testing.T) {
	const n = 1 << 17
	faults(t, slices.Repeat([]rune{'a'}, n), 0, 0)
	faults(t, slices.Repeat([]rune{0x628, 0x200C}, n), api.JoinWrong, api.JoinWrong)
	faults(t, append(slices.Repeat([]rune{0x628, 0x200C}, n), 0x628), 0, 0)
	faults(t, append(slices.Repeat([]rune{0x628, 0x64B, 0x200C, 0x64B}, n), 0x627), 0, 0)
	faults(t, append(slices.Repeat([]rune{'a'}, n), 'A', '-'), api.NotValid|api.HyphenEnd, api.NotValid)
	faults(t, append(slices.Repeat([]rune{'a'}, n), '.', 'a', 0x200D), api.Dotted|api.JoinWrong, api.Dotted|api.JoinWrong)
	row := slices.Repeat([]rune{0x64B}, n)
	if l := slices.Concat([]rune{0x628}, row, []rune{0x200C}, row, []rune{0x627}); Faults(l, true) != 0 || !Bidi(l) || !Right(l) {
		t.Error("of a long row of marks: ", Faults(l, true), Bidi(l), Right(l))
	}
	if l := slices.Concat([]rune{0x5D0, '-'}, row); Bidi(l) || !Right(l) {
		t.Error("behind a hyphen a long row of marks")
	}
}

// What is handed in stays as it is, behind its end too, and what stands there is not looked at.
func TestP6_2ArgumentsStay(t *testing.T) {
	for _, in := range []string{"", "61", "61 301 327", "73 307 323", "628 200C", "5D0", "78 6E", "78 6E 2D 2D", "2D 41 2E"} {
		whole := append(hexes(t, in), 0x628, 0x2E, 0x2D, 0x41, 0x301)
		before := slices.Clone(whole)
		l := whole[:len(whole)-5]
		byWords(t, l)
		if !slices.Equal(whole, before) {
			t.Errorf("%s: the list handed in is now %x", in, whole)
		}
	}
}

func TestP6_3Follows(t *testing.T) {
	follows := func(l []rune) {
		for _, hyphens := range []bool{false, true} {
			together := norm.NFC(l)
			if Faults(l, hyphens) == 0 && (Faults(together, hyphens) != 0 || Faults(norm.NFC(norm.NFD(l)), hyphens) != 0) {
				t.Errorf("%x is faultless, and put together again it is not: %x", l, together)
			}
			if Faults(together, hyphens)&api.NotNFC != 0 {
				t.Errorf("%x is put together, and is said not to be", together)
			}
		}
		if Faults(l, true)&^(api.HyphenMid|api.HyphenEnd) != Faults(l, false) {
			t.Errorf("%x: %x with hyphens, %x without", l, Faults(l, true), Faults(l, false))
		}
	}
	lists(3, all, follows)
	for seed := range uint64(2000) {
		follows(picked(seed, int(seed%20), all))
		follows(picked(seed, int(seed%8), []rune{'a', 0x327, 0x301, 0xE1, 0x1E61, 0x323, 0x94D, 0x200D}))
	}
}

func TestP6_3LettersDigitsHyphens(t *testing.T) {
	const only = api.HyphenMid | api.HyphenEnd | api.Prefixed
	ldh := []rune("abcdefghijklmnopqrstuvwxyz0123456789-")
	ask := func(l []rune) {
		if got := Faults(l, true); got&^only != 0 {
			t.Errorf("Faults(%q, true): %x", string(l), got)
		}
		if got := Faults(l, false); got&^api.Prefixed != 0 {
			t.Errorf("Faults(%q, false): %x", string(l), got)
		}
		if !Joins(l) || Right(l) {
			t.Errorf("%q: %v %v", string(l), Joins(l), Right(l))
		}
	}
	lists(3, ldh, ask)
	for seed := range uint64(5000) {
		ask(picked(seed, int(seed%64), ldh))
		ask(append([]rune("xn--"), picked(seed, int(seed%60), ldh)...))
	}
}

// Whoever looks for a neighbour may stop at any place, on either side.
func TestP6_1EitherWay(t *testing.T) {
	l := []rune{1, 2, 3, 4, 5}
	for i := -1; i <= len(l); i++ {
		behind := slices.Collect(onFrom(l, i, 1))
		if !slices.Equal(behind, l[min(i+1, len(l)):]) {
			t.Errorf("behind %d: %v", i, behind)
		}
		ahead := slices.Collect(onFrom(l, i, -1))
		slices.Reverse(ahead)
		if !slices.Equal(ahead, l[:max(i, 0)]) {
			t.Errorf("ahead of %d: %v", i, ahead)
		}
		for r := range onFrom(l, i, 1) {
			if r != l[i+1] {
				t.Errorf("directly behind %d: %v", i, r)
			}
			break
		}
	}
}
