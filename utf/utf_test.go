package utf

import (
	"slices"
	"strings"
	"testing"
	"unicode/utf8"

	"portcullis/api"
)

// edges are bytes at which what may stand there changes, and some between.
var edges = []byte{
	0x00, 0x41, 0x7F, 0x80, 0x8F, 0x90, 0x9F, 0xA0, 0xBF, 0xC0, 0xC1, 0xC2, 0xDF,
	0xE0, 0xE1, 0xEC, 0xED, 0xEE, 0xEF, 0xF0, 0xF1, 0xF3, 0xF4, 0xF5, 0xFF,
}

// texts are bytes of many kinds: whole, cut off, overlong, beyond.
var texts = []string{
	"", "a", "ab", "\x00", "\x7f", "\u0080", "\u00e9", "\u07ff", "\u0800", "\u20ac", "\ud7ff", "\ue000",
	"\ufffd", "\uffff", "\U00010000", "\U0001f600", "\U0010ffff", "a\u00e9\u20ac\U0001f600z",
	"\x80", "\xbf", "\xc3", "\xe2", "\xe2\x82", "\xf0", "\xf0\x9f", "\xf0\x9f\x92", "\xc0\x80", "\xc1\xbf",
	"\xe0\x80\x80", "\xe0\x9f\xbf", "\xf0\x80\x80\x80", "\xf0\x8f\xbf\xbf", "\xed\xa0\x80", "\xed\xbf\xbf",
	"\xf4\x90\x80\x80", "\xf5\x80\x80\x80", "\xff", "\xfe\xff", "a\xffb", "\xe2\x82A\xff", "\xef\xbf", "\xef\xbf\xbd\xef\xbf",
}

// each calls f with every scalar.
func each(f func(c rune)) {
	for c := rune(0); c <= 0x10FFFF; c++ {
		if c < 0xD800 || c > 0xDFFF {
			f(c)
		}
	}
}

// bytesOf is the chapter's definition of a scalar's bytes.
func bytesOf(c rune) string {
	b := func(l ...rune) string {
		var s []byte
		for _, x := range l {
			s = append(s, byte(x))
		}
		return string(s)
	}
	switch {
	case c < 0x80:
		return b(c)
	case c < 0x800:
		return b(0xC0+c/64, 0x80+c%64)
	case c < 0x10000:
		return b(0xE0+c/4096, 0x80+c/64%64, 0x80+c%64)
	}
	return b(0xF0+c/262144, 0x80+c/4096%64, 0x80+c/64%64, 0x80+c%64)
}

// spelled holds the scalars by their bytes, and all beginnings of them.
type spelled struct {
	whole  map[string]rune
	begins map[string]struct{}
}

func spell() spelled {
	w := spelled{map[string]rune{}, map[string]struct{}{}}
	each(func(c rune) {
		s := bytesOf(c)
		w.whole[s] = c
		for n := 1; n < len(s); n++ {
			w.begins[s[:n]] = struct{}{}
		}
	})
	return w
}

// front is the chapter's definition of what stands at the front, word by word.
func (w spelled) front(s string) (rune, int, bool) {
	if s == "" {
		return 0, 0, false
	}
	for n := 1; n <= min(4, len(s)); n++ {
		if c, ok := w.whole[s[:n]]; ok {
			return c, n, true
		}
	}
	for n := min(4, len(s)); n > 1; n-- {
		if _, ok := w.begins[s[:n]]; ok {
			return 0xFFFD, n, false
		}
	}
	return 0xFFFD, 1, false
}

func TestP1_1Examples(t *testing.T) {
	for _, c := range []struct {
		s     string
		r     rune
		n     int
		whole bool
	}{
		{"ab", 'a', 1, true},
		{"\xc3\xa9", 0xE9, 2, true},
		{"\xe2\x82\xacx", 0x20AC, 3, true},
		{"\xf0\x9f\x98\x80x", 0x1F600, 4, true},
		{"", 0, 0, false},
		{"\x00", 0, 1, true},
		{"\x7f", 0x7F, 1, true},
		{"\xc2\x80", 0x80, 2, true},
		{"\xdf\xbf", 0x7FF, 2, true},
		{"\xe0\xa0\x80", 0x800, 3, true},
		{"\xed\x9f\xbf", 0xD7FF, 3, true},
		{"\xee\x80\x80", 0xE000, 3, true},
		{"\xef\xbf\xbf", 0xFFFF, 3, true},
		{"\xf0\x90\x80\x80", 0x10000, 4, true},
		{"\xf4\x8f\xbf\xbf", 0x10FFFF, 4, true},
		{"\xef\xbf\xbd", 0xFFFD, 3, true},
		{"\xe2\x82A", 0xFFFD, 2, false},
		{"\xc0\x80", 0xFFFD, 1, false},
		{"\xc1\xbf", 0xFFFD, 1, false},
		{"\xed\xa0\x80", 0xFFFD, 1, false},
		{"\xed\xbf\xbf", 0xFFFD, 1, false},
		{"\xf0\x9f\x92", 0xFFFD, 3, false},
		{"\xf0\x9f", 0xFFFD, 2, false},
		{"\xf0", 0xFFFD, 1, false},
		{"\xe2\x82", 0xFFFD, 2, false},
		{"\xe2", 0xFFFD, 1, false},
		{"\xc3", 0xFFFD, 1, false},
		{"\xc3\xc3\xa9", 0xFFFD, 1, false},
		{"\xe0\x80\x80", 0xFFFD, 1, false},
		{"\xf0\x80\x80\x80", 0xFFFD, 1, false},
		{"\xf4\x90\x80\x80", 0xFFFD, 1, false},
		{"\xf5\x80\x80\x80", 0xFFFD, 1, false},
		{"\xff", 0xFFFD, 1, false},
		{"\x80", 0xFFFD, 1, false},
		{"\xbf\xbf", 0xFFFD, 1, false},
	} {
		if r, n, whole := Next(c.s); r != c.r || n != c.n || whole != c.whole {
			t.Errorf("Next(% X) = %X, %d, %v; want %X, %d, %v", c.s, r, n, whole, c.r, c.n, c.whole)
		}
	}
}

func TestP1_1EveryScalar(t *testing.T) {
	each(func(c rune) {
		s := bytesOf(c)
		for _, behind := range []string{"", "a", "\x80", "\xff"} {
			if r, n, whole := Next(s + behind); r != c || n != len(s) || !whole {
				t.Fatalf("Next(% X) = %X, %d, %v", s+behind, r, n, whole)
			}
		}
	})
}

func TestP1_1ByItsDefinition(t *testing.T) {
	w := spell()
	check := func(s string) {
		r, n, whole := Next(s)
		if r1, n1, whole1 := w.front(s); r != r1 || n != n1 || whole != whole1 {
			t.Fatalf("Next(% X) = %X, %d, %v; want %X, %d, %v", s, r, n, whole, r1, n1, whole1)
		}
	}
	for a := range 256 {
		check(string([]byte{byte(a)}))
		for b := range 256 {
			check(string([]byte{byte(a), byte(b)}))
		}
	}
	for _, a := range edges {
		for _, b := range edges {
			for _, c := range edges {
				check(string([]byte{a, b, c}))
				for _, d := range edges {
					check(string([]byte{a, b, c, d}))
				}
			}
		}
	}
}

func TestP1_2Valid(t *testing.T) {
	for _, s := range texts {
		if Valid(s) != utf8.ValidString(s) {
			t.Errorf("Valid(% X) = %v", s, Valid(s))
		}
	}
	for _, s := range []string{"", "\xef\xbf\xbd", "a\u00e9\u20ac\U0001f600"} {
		if !Valid(s) {
			t.Errorf("Valid(% X) = false", s)
		}
	}
	for _, s := range []string{"a\xff", "\xffa", "a\xe2\x82", "\xed\xa0\x80", "\xc0\x80"} {
		if Valid(s) {
			t.Errorf("Valid(% X) = true", s)
		}
	}
}

func TestP1_2DecodeAndClean(t *testing.T) {
	for _, c := range []struct {
		s     string
		l     []rune
		clean string
	}{
		{"", nil, ""},
		{"ab", []rune{'a', 'b'}, "ab"},
		{"a\xc3\xa9\xe2\x82\xac\xf0\x9f\x98\x80", []rune{'a', 0xE9, 0x20AC, 0x1F600}, "a\xc3\xa9\xe2\x82\xac\xf0\x9f\x98\x80"},
		{"\xe2\x82A\xff", []rune{0xFFFD, 'A', 0xFFFD}, "\xef\xbf\xbdA\xef\xbf\xbd"},
		{"\xef\xbf\xbd", []rune{0xFFFD}, "\xef\xbf\xbd"},
		{"\xed\xa0\x80", []rune{0xFFFD, 0xFFFD, 0xFFFD}, "\xef\xbf\xbd\xef\xbf\xbd\xef\xbf\xbd"},
		{"\xc0\x80", []rune{0xFFFD, 0xFFFD}, "\xef\xbf\xbd\xef\xbf\xbd"},
		{"\xf0\x9f\x92\xf0\x9f\x92", []rune{0xFFFD, 0xFFFD}, "\xef\xbf\xbd\xef\xbf\xbd"},
		{"\xf0\x9f\x92\xc3\xa9", []rune{0xFFFD, 0xE9}, "\xef\xbf\xbd\xc3\xa9"},
		{"\xf4\x90\x80\x80", []rune{0xFFFD, 0xFFFD, 0xFFFD, 0xFFFD}, strings.Repeat("\xef\xbf\xbd", 4)},
	} {
		if l := Decode(c.s); !slices.Equal(l, c.l) {
			t.Errorf("Decode(% X) = %X; want %X", c.s, l, c.l)
		}
		if s := Clean(c.s); s != c.clean {
			t.Errorf("Clean(% X) = % X; want % X", c.s, s, c.clean)
		}
	}
}

// What Next tells, gone on behind what it told, is what the others tell of all of it.
func TestP1_2GoesByNext(t *testing.T) {
	for _, a := range texts {
		for _, b := range texts {
			s := a + b
			var l []rune
			var clean string
			valid := true
			for rest := s; rest != ""; {
				r, n, whole := Next(rest)
				l = append(l, r)
				clean += bytesOf(r)
				valid = valid && whole
				rest = rest[n:]
			}
			if got := Decode(s); !slices.Equal(got, l) {
				t.Errorf("Decode(% X) = %X; want %X", s, got, l)
			}
			if got := Clean(s); got != clean {
				t.Errorf("Clean(% X) = % X; want % X", s, got, clean)
			}
			if got := Valid(s); got != valid {
				t.Errorf("Valid(% X) = %v", s, got)
			}
		}
	}
}

func TestP1_2AnswersAreNewMemory(t *testing.T) {
	s := "a\u00e9"
	l := Decode(s)
	l[0] = 'z'
	if got := Decode(s); !slices.Equal(got, []rune{'a', 0xE9}) {
		t.Errorf("Decode again = %X", got)
	}
}

func TestP1_3Encode(t *testing.T) {
	for _, c := range []struct {
		l []rune
		s string
	}{
		{nil, ""},
		{[]rune{}, ""},
		{[]rune{0}, "\x00"},
		{[]rune{0x41, 0x1F600}, "A\xf0\x9f\x98\x80"},
		{[]rune{0x7F, 0x80}, "\x7f\xc2\x80"},
		{[]rune{0x7FF, 0x800}, "\xdf\xbf\xe0\xa0\x80"},
		{[]rune{0xD7FF, 0xE000}, "\xed\x9f\xbf\xee\x80\x80"},
		{[]rune{0xFFFD}, "\xef\xbf\xbd"},
		{[]rune{0xFFFF, 0x10000}, "\xef\xbf\xbf\xf0\x90\x80\x80"},
		{[]rune{0x10FFFF}, "\xf4\x8f\xbf\xbf"},
	} {
		if s, e := Encode(c.l); s != c.s || e != api.OK {
			t.Errorf("Encode(%X) = % X, %v; want % X", c.l, s, e, c.s)
		}
	}
	each(func(c rune) {
		if s, e := Encode([]rune{c}); s != bytesOf(c) || e != api.OK {
			t.Fatalf("Encode(%X) = % X, %v", c, s, e)
		}
	})
}

func TestP1_3EncodeRefuses(t *testing.T) {
	wrong := []rune{-1, -0x41, -0x80000000, 0x110000, 0x110041, 0x7FFFFFFF}
	for c := rune(0xD800); c <= 0xDFFF; c++ {
		wrong = append(wrong, c)
	}
	for _, c := range wrong {
		for _, l := range [][]rune{{c}, {c, 'a'}, {'a', c}, {'a', c, 'a'}} {
			if s, e := Encode(l); s != "" || e != api.ErrArg {
				t.Errorf("Encode(%X) = % X, %v", l, s, e)
			}
		}
	}
}

func TestP1_3EncodeLeavesItsArgument(t *testing.T) {
	l := []rune{'a', 0xE9, 0x1F600}
	Encode(l)
	if !slices.Equal(l, []rune{'a', 0xE9, 0x1F600}) {
		t.Errorf("Encode changed its argument: %X", l)
	}
}

func TestP1_4DecodeOfEncode(t *testing.T) {
	var all []rune
	each(func(c rune) { all = append(all, c) })
	slices.Reverse(all)
	for _, l := range [][]rune{nil, {0}, {'a', 'b'}, {0xFFFD, 0xFFFD}, {0x10FFFF, 0, 0x7FF, 0x800}, all} {
		s, e := Encode(l)
		if e != api.OK || !Valid(s) || !slices.Equal(Decode(s), l) {
			t.Errorf("Decode of Encode of %d code points is another list", len(l))
		}
	}
}

func TestP1_4EncodeOfDecode(t *testing.T) {
	for _, a := range texts {
		for _, b := range texts {
			s := a + b
			back, e := Encode(Decode(s))
			if e != api.OK {
				t.Errorf("Encode of Decode of % X: %v", s, e)
			}
			if Valid(s) != (back == s) {
				t.Errorf("Encode of Decode of % X = % X, valid %v", s, back, Valid(s))
			}
		}
	}
}

func TestP1_4CleanOfClean(t *testing.T) {
	for _, a := range texts {
		for _, b := range texts {
			once := Clean(a + b)
			if !Valid(once) || Clean(once) != once {
				t.Errorf("Clean(% X) = % X", a+b, once)
			}
			if Valid(a+b) && once != a+b {
				t.Errorf("Clean of valid % X = % X", a+b, once)
			}
		}
	}
}

func TestP1_4OneBehindTheOther(t *testing.T) {
	for _, a := range texts {
		for _, b := range texts {
			if !Valid(a) || !Valid(b) {
				continue
			}
			if !Valid(a+b) || !slices.Equal(Decode(a+b), append(Decode(a), Decode(b)...)) {
				t.Errorf("Decode(% X) = %X", a+b, Decode(a+b))
			}
		}
	}
}
