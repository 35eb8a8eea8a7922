package pct

import (
	"fmt"
	"math"
	"strings"
	"testing"
	"unsafe"

	"portcullis/api"
)

// pieces is some of all kinds: what each set has and what none has, digits of sixteen and their neighbours, percent signs with and without digits, code points of one to four bytes, bytes that are not well-formed.
var pieces = []string{
	"a", "f", "g", "z", "A", "F", "G", "Z", "0", "2", "5", "9", "-", ".", "_", "~", "!", "*", "(", ")",
	"\x00", "\t", "\x1f", " ", "\x7e", "\x7f", "\u0080",
	"\"", "#", "<", ">", "'", "?", "^", "`", "{", "}", "/", ":", ";", "=", "@", "[", "\\", "]", "|", "$", "%", "&", "+", ",",
	"\u00E9", "\u07FF", "\u0800", "\u20AC", "\uD7FF", "\uE000", "\uFFFD", "\U00010000", "\U0001F600", "\U0010FFFF",
	"\xff", "\x80", "\xc3", "\xe2\x82", "\xed\xa0\x80", "\xc0\xa5", "\xf4\x90\x80\x80",
	"%41", "%c3", "%C3", "%25", "%zz", "%4",
}

// fewPieces is the same, for longer texts: what changes where a percent sign tells something.
var fewPieces = []string{"%", "2", "5", "a", "F", "g", " ", "\u00E9", "\xc3", "\xa9"}

func TestP9_1Examples(t *testing.T) {
	in(t, '%', api.SetUser, false)
	in(t, '%', api.SetComponent, true)
	in(t, 0x7F, api.SetControl, true)
	in(t, 0x61, 9, false)
}

// What a set adds to the next lesser one is in it and not in that.
func TestP9_1EachSignByBoth(t *testing.T) {
	for _, c := range []struct {
		set, lesser uint8
		signs       string
	}{
		{api.SetFragment, api.SetControl, " \"<>`"},
		{api.SetQuery, api.SetControl, " \"#<>"},
		{api.SetSpecial, api.SetQuery, "'"},
		{api.SetPath, api.SetQuery, "?^`{}"},
		{api.SetUser, api.SetPath, "/:;=@[\\]|"},
		{api.SetComponent, api.SetUser, "$%&+,"},
	} {
		added := ""
		for r := rune(0); r < 0x100; r++ {
			if In(r, c.lesser) && !In(r, c.set) {
				t.Errorf("%q is in %d, not in %d", r, c.lesser, c.set)
			}
			if In(r, c.set) && !In(r, c.lesser) {
				added += string(r)
			}
		}
		if len(added) != len(c.signs) {
			t.Errorf("%d adds %q to %d, not %q", c.set, added, c.lesser, c.signs)
		}
		for _, r := range c.signs {
			in(t, r, c.set, true)
			in(t, r, c.lesser, false)
		}
	}
}

// Of two sets neither of which has all of the other one.
func TestP9_1SetsBeside(t *testing.T) {
	in(t, '#', api.SetFragment, false)
	in(t, '`', api.SetQuery, false)
	in(t, '`', api.SetSpecial, false)
	for _, set := range []uint8{api.SetControl, api.SetFragment, api.SetQuery, api.SetPath, api.SetUser, api.SetComponent} {
		in(t, '\'', set, false)
	}
	for _, r := range "?^`{}" {
		in(t, r, api.SetSpecial, false)
	}
}

func TestP9_1Edges(t *testing.T) {
	for _, c := range sets {
		in(t, 0, c.set, true)
		in(t, 0x1F, c.set, true)
		in(t, 0x20, c.set, c.set != api.SetControl)
		in(t, 0x21, c.set, false)
		in(t, 0x7E, c.set, false)
		in(t, 0x7F, c.set, true)
		in(t, 0x80, c.set, true)
		in(t, 0xFF, c.set, true)
		in(t, 0xD7FF, c.set, true)
		in(t, 0xD800, c.set, true) // a code point, though no scalar
		in(t, 0xDFFF, c.set, true)
		in(t, 0xE000, c.set, true)
		in(t, 0xFFFD, c.set, true)
		in(t, 0x10FFFF, c.set, true)
	}
}

func TestP9_1EachCodePoint(t *testing.T) {
	for _, c := range sets {
		for r := rune(0); r <= 0x10FFFF; r++ {
			if In(r, c.set) != wordsIn(r, c.set) {
				t.Errorf("In(%x, %s): %v", r, c.name, In(r, c.set))
			}
		}
		for r := rune('0'); r <= 'z'; r++ {
			if r <= '9' || 'A' <= r && r <= 'Z' || 'a' <= r {
				in(t, r, c.set, false)
			}
		}
	}
}

func TestP9_1NoSuchSet(t *testing.T) {
	for set := int(api.SetComponent) + 1; set <= 255; set++ {
		for r := rune(0); r <= 0x100; r++ {
			in(t, r, uint8(set), false)
		}
		for _, r := range []rune{-1, 0x7FF, 0xD800, 0xFFFD, 0x10FFFF, 0x110000, math.MinInt32, math.MaxInt32} {
			in(t, r, uint8(set), false)
		}
	}
}

func TestP9_1NoCodePoint(t *testing.T) {
	for _, c := range sets {
		for _, r := range []rune{-1, -0x20, math.MinInt32, 0x110000, 0x110001, math.MaxInt32} {
			in(t, r, c.set, false)
		}
		// numbers whose last byte, or last but two, is a sign's
		for _, sign := range " \"#<>'?^`{}/:;=@[\\]|$%&+,\x00\x1f\x7f" {
			in(t, sign-0x100, c.set, false)
			in(t, sign-0x10000, c.set, false)
			in(t, sign|math.MinInt32, c.set, false)
			in(t, sign|0x1000000, c.set, false)
			in(t, sign|0x40000000, c.set, false)
			in(t, -sign-1, c.set, false)
		}
	}
}

func TestP9_2Examples(t *testing.T) {
	encoded(t, "a b?\u00E9", api.SetPath, "a%20b%3F%C3%A9")
	encoded(t, "a b?", api.SetQuery, "a%20b?")
}

func TestP9_2Ordinary(t *testing.T) {
	const s = "q='x y'&r=<1>#`{%}\"^|/a:b;c@d[e]\\$f+g,h?~"
	for set, want := range map[uint8]string{
		api.SetControl:   "q='x y'&r=<1>#`{%}\"^|/a:b;c@d[e]\\$f+g,h?~",
		api.SetFragment:  "q='x%20y'&r=%3C1%3E#%60{%}%22^|/a:b;c@d[e]\\$f+g,h?~",
		api.SetQuery:     "q='x%20y'&r=%3C1%3E%23`{%}%22^|/a:b;c@d[e]\\$f+g,h?~",
		api.SetSpecial:   "q=%27x%20y%27&r=%3C1%3E%23`{%}%22^|/a:b;c@d[e]\\$f+g,h?~",
		api.SetPath:      "q='x%20y'&r=%3C1%3E%23%60%7B%%7D%22%5E|/a:b;c@d[e]\\$f+g,h%3F~",
		api.SetUser:      "q%3D'x%20y'&r%3D%3C1%3E%23%60%7B%%7D%22%5E%7C%2Fa%3Ab%3Bc%40d%5Be%5D%5C$f+g,h%3F~",
		api.SetComponent: "q%3D'x%20y'%26r%3D%3C1%3E%23%60%7B%25%7D%22%5E%7C%2Fa%3Ab%3Bc%40d%5Be%5D%5C%24f%2Bg%2Ch%3F~",
		7:                s,
		255:              s,
	} {
		encoded(t, s, set, want)
	}
	for _, c := range sets {
		encoded(t, "", c.set, "")
		encoded(t, "AZaz09-._~!*()", c.set, "AZaz09-._~!*()")
		encoded(t, "\x00\t\r\n\x1f", c.set, "%00%09%0D%0A%1F")
		encoded(t, "\x7e\x7f\u0080", c.set, "~%7F%C2%80")
		encoded(t, "a\u00E9b\u20ACc\U0001F600d", c.set, "a%C3%A9b%E2%82%ACc%F0%9F%98%80d")
		encoded(t, "\U0010FFFF\uE000\uD7FF", c.set, "%F4%8F%BF%BF%EE%80%80%ED%9F%BF")
	}
}

// The percent sign stays by all sets but the one that has it, whatever stands behind it.
func TestP9_2PercentSign(t *testing.T) {
	for _, s := range []string{"%", "%%", "%4", "%41", "%zz", "%c3%A9", "a%", "%2541"} {
		for _, c := range sets {
			want := s
			if c.set == api.SetComponent {
				want = strings.ReplaceAll(s, "%", "%25")
			}
			encoded(t, s, c.set, want)
		}
	}
}

func TestP9_2Bytes(t *testing.T) {
	for _, c := range sets {
		encoded(t, "\xff", c.set, "%EF%BF%BD")
		encoded(t, "\uFFFD", c.set, "%EF%BF%BD")
		encoded(t, "a\x80b", c.set, "a%EF%BF%BDb")
		encoded(t, "\xe2\x82A\xff", c.set, "%EF%BF%BDA%EF%BF%BD")
		encoded(t, "\xf0\x9f\x92", c.set, "%EF%BF%BD")
		encoded(t, "\xed\xa0\x80", c.set, strings.Repeat("%EF%BF%BD", 3))
		encoded(t, "\xc0\xa5", c.set, strings.Repeat("%EF%BF%BD", 2))
	}
	for _, set := range noSet {
		encoded(t, "", set, "")
		encoded(t, "a b%\x00\x7f\u00E9\U0001F600", set, "a b%\x00\x7f\u00E9\U0001F600")
		encoded(t, "a\xffb\xe2\x82", set, "a\uFFFDb\uFFFD") // clean all the same
	}
}

func TestP9_2EachCodePoint(t *testing.T) {
	for r := rune(0); r <= 0x10FFFF; r++ {
		if r >= 0x10000 && r&0xFFF >= 0x10 && r&0xFFF <= 0xFF0 {
			continue // of four bytes, those at the edges of a byte are enough
		}
		s, told := string(r), ""
		for i := range len(s) {
			told += fmt.Sprintf("%%%02X", s[i])
		}
		for _, c := range sets {
			if wordsIn(r, c.set) {
				encoded(t, s, c.set, told)
			} else {
				encoded(t, s, c.set, s)
			}
		}
	}
}

func TestP9_3Examples(t *testing.T) {
	decoded(t, "%41%zz%4", "A%zz%4")
	decoded(t, "%c3%A9", "\u00E9")
}

func TestP9_3Edges(t *testing.T) {
	for s, want := range map[string]string{
		"":              "",
		"a":             "a",
		"a+b c":         "a+b c", // a plus sign is no blank
		"%":             "%",
		"%%":            "%%",
		"%%%":           "%%%",
		"a%":            "a%",
		"%4":            "%4",
		"a%4":           "a%4",
		"%A":            "%A",
		"%f":            "%f",
		"%4g":           "%4g",
		"%g4":           "%g4",
		"%4 1":          "%4 1",
		"% 41":          "% 41",
		"%4%":           "%4%",
		"%+1":           "%+1",
		"%-1":           "%-1",
		"%0x":           "%0x",
		"%0x41":         "%0x41",
		"%\uFF14\uFF11": "%\uFF14\uFF11", // wide digits are none
		"%4\u0661":      "%4\u0661",
		"%u0041":        "%u0041",
		"%41":           "A",
		"%4a":           "J",
		"%4A":           "J",
		"%aF":           "\xaf",
		"%Af":           "\xaf",
		"%AF":           "\xaf",
		"%af":           "\xaf",
		"%6a%6A":        "jj",
		"%00":           "\x00",
		"%0a%0D":        "\n\r",
		"%7f":           "\x7f",
		"%20":           " ",
		"%410":          "A0",
		"%41%42":        "AB",
		"x%41y%42z":     "xAyBz",
		"%4%41":         "%4A",
		"%%41":          "%A",
		"%%%41":         "%%A",
		"%z%41":         "%zA",
		"%41%":          "A%",
		"%41%4":         "A%4",
		"41%":           "41%",
		"&#37;41":       "&#37;41",
	} {
		decoded(t, s, want)
	}
}

// What comes to a percent sign is not read again, neither with what stands behind it nor with what is told there.
func TestP9_3OnceOnly(t *testing.T) {
	for s, want := range map[string]string{
		"%25":          "%",
		"%2541":        "%41",
		"%25%34%31":    "%41",
		"%25%2541":     "%%41",
		"%252541":      "%2541",
		"%25254":       "%254",
		"%2525":        "%25",
		"%25zz":        "%zz",
		"%2%35%34%31":  "%2541",
		"%%341":        "%41",
		"%%34%31":      "%41",
		"%4%31":        "%41",
		"%%32%35":      "%25",
		"%25c3%25a9":   "%c3%a9",
		"%25%63%33%61": "%c3a",
	} {
		decoded(t, s, want)
	}
}

// Bytes stay as they are, told or not: nothing is made clean.
func TestP9_3Bytes(t *testing.T) {
	for s, want := range map[string]string{
		"%80":               "\x80",
		"%ff":               "\xff",
		"%C3":               "\xc3",
		"%C3\xa9":           "\u00E9",
		"\xc3%A9":           "\u00E9",
		"\xc3%zz\xa9":       "\xc3%zz\xa9",
		"%e2%82%ac":         "\u20AC",
		"%E2%82A%FF":        "\xe2\x82A\xff",
		"%F0%9F%98%80":      "\U0001F600",
		"%ED%A0%80":         "\xed\xa0\x80",
		"%c0%A5":            "\xc0\xa5",
		"\xff":              "\xff",
		"\xe2\x82":          "\xe2\x82",
		"%\xff":             "%\xff",
		"%4\xff":            "%4\xff",
		"\xff%41\xff":       "\xffA\xff",
		"%\xb4\xb1":         "%\xb4\xb1",
		"\u00E9\U0001F600%": "\u00E9\U0001F600%",
	} {
		decoded(t, s, want)
	}
}

// Every percent sign and two bytes, whatever they are, alone and with something around them.
func TestP9_3EveryTwoBytes(t *testing.T) {
	const small, capital = "0123456789abcdef", "0123456789ABCDEF"
	value := func(c byte) int { return max(strings.IndexByte(small, c), strings.IndexByte(capital, c)) }
	for pair := range 1 << 16 {
		s := "%" + string([]byte{byte(pair >> 8), byte(pair)})
		want := s
		if high, low := value(s[1]), value(s[2]); high >= 0 && low >= 0 {
			want = string([]byte{byte(high*16 + low)})
		}
		decoded(t, s, want)
		decoded(t, "4"+s+"g", "4"+want+"g")
	}
	for b := range 256 {
		one := string([]byte{byte(b)})
		decoded(t, one, one)
		decoded(t, "%"+one, "%"+one)
		decoded(t, fmt.Sprintf("%%%02x", b), one)
		decoded(t, fmt.Sprintf("%%%02X", b), one)
	}
}

func TestP9_4Follows(t *testing.T) {
	for _, s := range []string{"", "%", "%41", "%25", "100% \u00E9%c3%A9", "a\xffb", "%\xff%4", "\x00\x1f\x20\x7e\x7f\u0080"} {
		follows(t, s)
	}
	for r := rune(0); r <= 0x20000; r++ {
		follows(t, string(r))
	}
}

// The set that has the percent sign is the one where twice is not once.
func TestP9_4PercentSign(t *testing.T) {
	encoded(t, Encode(" ", api.SetComponent), api.SetComponent, "%2520")
	encoded(t, Encode(" ", api.SetUser), api.SetUser, "%20")
	decoded(t, Encode("%41", api.SetComponent), "%41")
	decoded(t, Encode("%41", api.SetUser), "A")
}

func TestP9_4ByTheWords(t *testing.T) {
	texts(2, pieces, func(s string) { byWords(t, s) })
	texts(4, fewPieces, func(s string) { byWords(t, s) })
	for seed := range uint64(1000) {
		byWords(t, picked(seed, int(seed%40), pieces))
		byWords(t, picked(seed, int(seed%20), fewPieces))
	}
}

func TestP9_4Long(t *testing.T) {
	const n = 1 << 18
	encoded(t, strings.Repeat("a\u00E9 %", n), api.SetComponent, strings.Repeat("a%C3%A9%20%25", n))
	encoded(t, strings.Repeat("\xff", n), api.SetControl, strings.Repeat("%EF%BF%BD", n))
	decoded(t, strings.Repeat("%", n), strings.Repeat("%", n))
	decoded(t, strings.Repeat("%4", n), strings.Repeat("%4", n))
	decoded(t, strings.Repeat("%25", n)+"41", strings.Repeat("%", n)+"41")
	follows(t, strings.Repeat("a\xff\u00E9 %41", n))
}

// What was answered once stays as it is, whatever is asked later.
func TestP9_4AnswersStay(t *testing.T) {
	held := map[string]string{
		"plain%":   Encode("plain%", api.SetUser),
		"plain%25": Encode("plain%", api.SetComponent),
		"\uFFFD ":  Encode("\xff ", 255),
		"plainA":   Decode("plain%41"),
		"\u00E9":   Decode("%c3%a9"),
	}
	for _, other := range []string{"", "%%%%%%%%", "%41%42%43%44", "\xff\xff\xff\xff", "<<<<<<<<", "plain%"} {
		for _, set := range everySet() {
			Decode(Encode(other, set))
		}
		Decode(other)
	}
	for want, got := range held {
		if got != want {
			t.Errorf("%q became %q", want, got)
		}
	}
}

// An answer is memory of its own, even where it is the same text.
func TestP9_4AnswersAreNew(t *testing.T) {
	for _, s := range []string{"plain", "plain%", "plain%zz", "\uFFFD"} {
		s = strings.Clone(s)
		for _, set := range everySet() {
			if unsafe.StringData(Encode(s, set)) == unsafe.StringData(s) {
				t.Errorf("Encode(%q, %d): the argument's own memory", s, set)
			}
		}
		if unsafe.StringData(Decode(s)) == unsafe.StringData(s) {
			t.Errorf("Decode(%q): the argument's own memory", s)
		}
	}
}
