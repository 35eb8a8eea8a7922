package four

import (
	"fmt"
	"math"
	"math/rand/v2"
	"strings"
	"testing"
	"unsafe"

	"portcullis/api"
)

// pieces is some of all kinds: digits of each base and what stands beside them in ASCII, dots, what tells a base, signs, blanks, bytes that are not ASCII.
var pieces = []string{
	"0", "1", "7", "8", "9", "a", "f", "g", "A", "F", "G", "x", "X", "/", ":", "@", "`", ".", "-", "+", "_", " ", "\t", "\n", "\x00", "%",
	"0x", "0X", "255", "256", "65536", "4294967295", "4294967296", "\xff", "\xb1", "\u0661", "\uFF11", "\u3002",
}

// fewPieces is the same, for longer texts: what changes where a number begins, ends, or is none.
var fewPieces = []string{"0", "1", "8", "a", "x", "."}

// partPieces is parts of all kinds; of those in a row some are addresses.
var partPieces = []string{
	"", "0", "00", "1", "7", "08", "010", "255", "256", "0377", "0400", "0xff", "0XFF", "0x100", "0x", "0Xg", "a", "09", "-1",
	"65535", "65536", "16777215", "16777216", "4294967295", "4294967296", "99999999999999999999999",
}

func TestP10_1Ordinary(t *testing.T) {
	for s, want := range map[string]uint64{
		"1":          1,
		"7":          7,
		"8":          8,
		"9":          9,
		"10":         10,
		"127":        127,
		"1234567890": 1234567890,
		"01":         1,
		"07":         7,
		"010":        8,
		"0177":       127,
		"01234567":   0o1234567,
		"0x7f":       127,
		"0x7F":       127,
		"0X7f":       127,
		"0X7F":       127,
		"0x10":       16,
		"0x89abcdef": 0x89ABCDEF,
		"0X89ABCDEF": 0x89ABCDEF,
		"0x01234567": 0x1234567,
		"0xaBcDeF":   0xABCDEF,
	} {
		number(t, s, want, api.OK)
	}
}

func TestP10_1Edges(t *testing.T) {
	for s, want := range map[string]uint64{
		"0":    0,
		"00":   0,
		"000":  0,
		"0x":   0,
		"0X":   0,
		"0x0":  0,
		"0X00": 0,
		"0010": 8,
	} {
		number(t, s, want, api.OK)
	}
	for _, s := range []string{
		"", "08", "09", "008", "018", "0180", "08x", "1a", "a", "f", "F", "0a", "0f", "0xg", "0xG", "0XG", "0x1g", "0xg1", "1g",
		"x", "X", "x1", "00x1", "00x", "0x0x1", "0xx", "10x1", "1x", "0b1", "0o7", "0o17", "0O7", "1e3", "1_000", "0x_1", "0_7", "ff", "0xfg",
	} {
		number(t, s, 0, api.ErrForm)
	}
}

// Each byte behind what tells a base is a digit of it, with its value, or makes it no number.
func TestP10_1EachDigitByEachBase(t *testing.T) {
	const small, capital = "0123456789abcdef", "0123456789ABCDEF"
	for _, c := range []struct {
		front string
		base  int
	}{{"0x", 16}, {"0X", 16}, {"0x1", 16}, {"00", 8}, {"01", 8}, {"1", 10}, {"9", 10}} {
		ahead, e := wordsNumber(c.front)
		if e != api.OK {
			t.Fatal(c.front, e)
		}
		for b := range 256 {
			s := c.front + string([]byte{byte(b)})
			d := max(strings.IndexByte(small, byte(b)), strings.IndexByte(capital, byte(b)))
			if d >= 0 && d < c.base {
				number(t, s, ahead*uint64(c.base)+uint64(d), api.OK)
			} else {
				number(t, s, 0, api.ErrForm)
			}
		}
	}
	for b := range 256 { // alone it is by ten
		s := string([]byte{byte(b)})
		if d := strings.IndexByte(small[:10], byte(b)); d >= 0 {
			number(t, s, uint64(d), api.OK)
		} else {
			number(t, s, 0, api.ErrForm)
		}
		if d := strings.IndexByte(small[:8], byte(b)); d >= 0 {
			number(t, "0"+s, uint64(d), api.OK)
		} else if b == 'x' || b == 'X' {
			number(t, "0"+s, 0, api.OK)
		} else {
			number(t, "0"+s, 0, api.ErrForm)
		}
	}
}

func TestP10_1TooGreat(t *testing.T) {
	for _, s := range []string{"4294967295", "037777777777", "0xffffffff", "0XFFFFFFFF", "0x00000000ffffffff", "0000000037777777777"} {
		number(t, s, math.MaxUint32, api.OK)
	}
	for _, s := range []string{
		"4294967296", "4294967297", "42949672950", "040000000000", "0x100000000", "0X100000000", "0x0000000100000000",
		// what comes back to something small in 64 bits: 2^64, and 1 or 16 more, by each base
		"18446744073709551615", "18446744073709551616", "18446744073709551617", "02000000000000000000000", "02000000000000000000001", "0x10000000000000000", "0x10000000000000010",
		// and 2^128
		"340282366920938463463374607431768211456", "0x100000000000000000000000000000000",
	} {
		number(t, s, 0, api.ErrLong)
	}
	for _, s := range []string{"4294967296a", "42949672960x", "0400000000008", "0x100000000g", "99999999999999999999999 ", "04294967296"} {
		number(t, s, 0, api.ErrForm) // ahead of ErrLong
	}
}

func TestP10_1ManyDigits(t *testing.T) {
	const n = 1 << 18
	noughts := strings.Repeat("0", n)
	for _, front := range []string{"", "0x", "0X"} {
		number(t, front+noughts, 0, api.OK)
		number(t, front+noughts+"7", 7, api.OK)
		number(t, front+noughts+"g", 0, api.ErrForm)
	}
	number(t, noughts+"17", 15, api.OK)
	number(t, "0x"+noughts+"ffffffff", math.MaxUint32, api.OK)
	number(t, noughts+"37777777777", math.MaxUint32, api.OK)
	number(t, noughts+"8", 0, api.ErrForm)
	for _, front := range []string{"1", "01", "0x1", "0X1"} {
		number(t, front+noughts, 0, api.ErrLong)
		number(t, front+noughts+"7", 0, api.ErrLong)
		number(t, front+noughts+"-", 0, api.ErrForm)
	}
	for _, digit := range []string{"9", "0x", "0xf", "7", "07"} {
		byWords(t, digit+strings.Repeat("7", 300))
	}
	number(t, strings.Repeat("9", n), 0, api.ErrLong)
	number(t, "0x"+strings.Repeat("f", n), 0, api.ErrLong)
	number(t, "0"+strings.Repeat("7", n), 0, api.ErrLong)
}

func TestP10_1WrongInputs(t *testing.T) {
	for _, good := range []string{"1", "12", "0", "017", "0x7f", "4294967296"} {
		for _, bad := range []string{
			"+", "-", " ", "\t", "\n", "\r", "\x00", ".", ",", "_", "%", "/", ":", "\x80", "\xff", "\xb1", "\u00B2", "\u0661", "\uFF11", "\u0967",
		} {
			number(t, bad, 0, api.ErrForm)
			number(t, bad+good, 0, api.ErrForm)
			number(t, good+bad, 0, api.ErrForm)
			number(t, good[:1]+bad+good[1:], 0, api.ErrForm)
		}
	}
	for _, s := range []string{"0x-1", "0x+1", "0x 1", "0x\xff", "0\xff", "0-1", "0+7", "-0x1", "+0", "1.", ".1", "1.2"} {
		number(t, s, 0, api.ErrForm)
	}
}

func TestP10_2Examples(t *testing.T) {
	ends(t, "a.09", true)
	ends(t, "a.0x", true)
	ends(t, "a.0xg", false)
	ends(t, "1.a", false)
	ends(t, "a.1.", true)
}

func TestP10_2Ordinary(t *testing.T) {
	for last, want := range map[string]bool{
		"0":                            true,
		"1":                            true,
		"9":                            true,
		"255":                          true,
		"256":                          true,
		"08":                           true, // digits, though no number by eight
		"09":                           true,
		"0899":                         true,
		"017":                          true,
		"4294967296":                   true,
		"99999999999999999999":         true,
		"0x":                           true,
		"0X":                           true,
		"0x0":                          true,
		"0xff":                         true,
		"0XfF":                         true,
		"0x100000000":                  true,
		"0X99999999999":                true,
		"0xfffffffffffffffffffffffff":  true,
		"0xfffffffffffffffffffffffffg": false,
		"a":                            false,
		"f":                            false,
		"ff":                           false,
		"com":                          false,
		"x":                            false,
		"x0":                           false,
		"1a":                           false,
		"a1":                           false,
		"1a1":                          false,
		"0a":                           false,
		"0a0":                          false,
		"0xg":                          false,
		"0xG":                          false,
		"0x1g":                         false,
		"0xg1":                         false,
		"0x0x":                         false,
		"00x1":                         false,
		"10x1":                         false,
		"-1":                           false,
		"+1":                           false,
		" 1":                           false,
		"1 ":                           false,
		"0x 1":                         false,
		"0x-1":                         false,
		"1_0":                          false,
		"1e1":                          false,
		"1/":                           false,
		"/1":                           false,
		"1:":                           false,
		":":                            false,
		"\xff":                         false,
		"1\xff":                        false,
		"\xb1":                         false,
		"\u0661":                       false,
		"\uFF11":                       false,
		"0x\xff":                       false,
		"1\x00":                        false,
	} {
		for _, front := range []string{"", ".", "a.", "1.", "a.b.", "1.2.3.4.5.6.", "..", "a..", "\xff.", "0xg.", "09.", " ."} {
			ends(t, front+last, want)
			ends(t, front+last+".", want)
		}
		ends(t, last+"..", false)
		ends(t, last+".a", false)
		ends(t, last+".a.", false)
		ends(t, last+".1", true)
		ends(t, last+"..1.", true)
	}
}

func TestP10_2Dots(t *testing.T) {
	for s, want := range map[string]bool{
		"":      false,
		".":     false,
		"..":    false,
		"...":   false,
		"1":     true,
		"1.":    true,
		"1..":   false,
		"1...":  false,
		".1":    true,
		"..1":   true,
		".1.":   true,
		".1..":  false,
		"a.":    false,
		"a..":   false,
		".a":    false,
		"a..1":  true,
		"a..1.": true,
		"0x.":   true,
		"0x..":  false,
	} {
		ends(t, s, want)
	}
}

func TestP10_2EachByte(t *testing.T) {
	for b := range 256 {
		one := string([]byte{byte(b)})
		ten := '0' <= b && b <= '9'
		six := ten || 'a' <= b && b <= 'f' || 'A' <= b && b <= 'F'
		if b == '.' {
			continue // it ends a part
		}
		ends(t, one, ten)
		ends(t, "9"+one, ten)
		ends(t, one+"9", ten)
		ends(t, "9"+one+"9", ten)
		ends(t, "0"+one, ten || b == 'x' || b == 'X')
		ends(t, "0x"+one, six)
		ends(t, "0X"+one+"1", six)
		ends(t, one+".0X", true)
	}
}

func TestP10_3Examples(t *testing.T) {
	for _, s := range []string{"127.1", "0x7f.0.0.01", "2130706433", "127.0.0.1."} {
		parsed(t, s, 0x7F000001, api.OK)
	}
	parsed(t, "256.1", 0, api.ErrLong)
	parsed(t, "1.2.3.4.5", 0, api.ErrForm)
	parsed(t, "1..2", 0, api.ErrForm)
	parsed(t, "08", 0, api.ErrForm)
	parsed(t, "4294967296", 0, api.ErrLong)
}

func TestP10_3Ordinary(t *testing.T) {
	for s, want := range map[string]uint32{
		"0":                   0,
		"1":                   1,
		"0x":                  0,
		"0X.0x.0.00":          0,
		"1.2":                 0x01000002,
		"1.2.3":               0x01020003,
		"1.2.3.4":             0x01020304,
		"1.2.772":             0x01020304,
		"1.131844":            0x01020304,
		"16909060":            0x01020304,
		"0x01020304":          0x01020304,
		"0100401404":          0x01020304,
		"01.0x2.3.04":         0x01020304,
		"192.168.0.1":         0xC0A80001,
		"0300.0250.0.1":       0xC0A80001,
		"0xC0.0xa8.0X0.0x1":   0xC0A80001,
		"0xc0a80001":          0xC0A80001,
		"0XC0A80001":          0xC0A80001,
		"0xc0.0xA80001":       0xC0A80001,
		"0xC0.0250.1":         0xC0A80001,
		"192.0xa8.00000000.1": 0xC0A80001,
		"010.010.010.010":     0x08080808,
		"10.10.10.10":         0x0A0A0A0A,
		"0x10.0x10.0x10.0x10": 0x10101010,
		"255.255.255.255":     math.MaxUint32,
		"037777777777":        math.MaxUint32,
	} {
		parsed(t, s, want, api.OK)
		parsed(t, s+".", want, api.OK)
		parsed(t, s+"..", 0, api.ErrForm)
		parsed(t, "."+s, 0, api.ErrForm)
	}
}

func TestP10_3Dots(t *testing.T) {
	for s, want := range map[string]uint32{
		"1.":       1,
		"1.2.":     0x01000002,
		"1.2.3.":   0x01020003,
		"1.2.3.4.": 0x01020304,
	} {
		parsed(t, s, want, api.OK)
	}
	for _, s := range []string{
		"", ".", "..", "...", "....", ".....", ".1", ".1.", "1..", "1...", "1..2", "1..2.", "1.2..3", "1.2.3..", "1.2.3..4", "..1", "1.2.3.4..", "1.2.3.4.5", "1.2.3.4.5.", "1.2.3.4.5.6",
		"0.0.0.0.0", "0x.0x.0x.0x.0x", "1.2.3.4.0", "1.2.3.4.08", "1.2.3.4.a", "a.2.3.4.5", "256.2.3.4.5", "1.2.3.4.4294967296", "4294967296.2.3.4.5.",
		"1.2.3.4 .", "1.2.3.4\u3002", "1\u30022", "1,2",
	} {
		parsed(t, s, 0, api.ErrForm)
	}
}

// One but the last is at most 255, wherever it stands and whatever the others are.
func TestP10_3AllButLast(t *testing.T) {
	for many := 2; many <= 4; many++ {
		for at := range many - 1 {
			for _, c := range []struct {
				part string
				n    uint32
				e    api.Errno
			}{
				{"254", 254, api.OK}, {"255", 255, api.OK}, {"256", 0, api.ErrLong}, {"0377", 255, api.OK}, {"0400", 0, api.ErrLong}, {"0xff", 255, api.OK}, {"0X100", 0, api.ErrLong},
				{"511", 0, api.ErrLong}, {"512", 0, api.ErrLong}, {"65536", 0, api.ErrLong}, {"4294967295", 0, api.ErrLong}, {"4294967296", 0, api.ErrLong}, {"18446744073709551617", 0, api.ErrLong},
			} {
				l := []string{"0", "0", "0", "0"}[:many]
				l[at] = c.part
				want := c.n << (8 * (3 - at))
				parsed(t, strings.Join(l, "."), want, c.e)
				parsed(t, strings.Join(l, ".")+".", want, c.e)
			}
		}
	}
}

// The last one fills what those ahead of it leave.
func TestP10_3Last(t *testing.T) {
	for many, greatest := range map[int]uint64{1: 1<<32 - 1, 2: 1<<24 - 1, 3: 1<<16 - 1, 4: 1<<8 - 1} {
		front := strings.Repeat("0.", many-1)
		for _, form := range []string{"%d", "0%o", "0x%x", "0X%X", "0x0000000000%x"} {
			for n, e := range map[uint64]api.Errno{
				greatest - 1:    api.OK,
				greatest:        api.OK,
				greatest + 1:    api.ErrLong,
				greatest + 2:    api.ErrLong,
				greatest*2 + 1:  api.ErrLong,
				1 << 32:         api.ErrLong,
				1<<32 + 1:       api.ErrLong,
				math.MaxUint64:  api.ErrLong,
				1 << 63:         api.ErrLong,
				greatest/2 + 1:  api.OK,
				greatest &^ 255: api.OK,
			} {
				want := uint32(n)
				if e != api.OK {
					want = 0
				}
				parsed(t, front+fmt.Sprintf(form, n), want, e)
			}
		}
		parsed(t, strings.Repeat("255.", many-1)+fmt.Sprint(greatest), math.MaxUint32, api.OK)
		parsed(t, strings.Repeat("255.", many-1)+fmt.Sprint(greatest+1), 0, api.ErrLong)
	}
}

// A part that is no number counts ahead of one that is too great, wherever the two stand.
func TestP10_3SeveralErrors(t *testing.T) {
	for _, bad := range []string{"", "08", "a", "0xg", "-1", " 1", "\xff", "4294967296g"} {
		for _, great := range []string{"256", "0400", "0x100", "4294967296", "99999999999999999999999999"} {
			for _, s := range []string{great + "." + bad + ".1", "1." + great + "." + bad + ".1", great + ".1.1." + "x" + bad, bad + "." + great, bad + ".1.1." + great, great + "." + bad + "." + great + "." + great} {
				parsed(t, s, 0, api.ErrForm)
			}
			parsed(t, "1.2.3."+great+"."+bad+"1", 0, api.ErrForm)
			parsed(t, great+".2.3.4.5", 0, api.ErrForm)
			parsed(t, bad+"."+great+".3.4.5", 0, api.ErrForm)
			parsed(t, great+".1", 0, api.ErrLong)
		}
	}
	parsed(t, "256.256.256.256", 0, api.ErrLong)
	parsed(t, "256.4294967296", 0, api.ErrLong)
	parsed(t, "1.2.3.256", 0, api.ErrLong)
	parsed(t, "1.2.3.4.256", 0, api.ErrForm)
}

func TestP10_3WrongInputs(t *testing.T) {
	for _, bad := range []string{"+1", "-1", " 1", "1 ", "\t1", "1\n", "1\x00", "\x80", "1\xff", "\u0661", "\uFF11", "1_0", "1e1", "%31", "1/", "1:", "[1]", "a", "x1", "1x", "08", "0xg"} {
		parsed(t, bad, 0, api.ErrForm)
		parsed(t, bad+".", 0, api.ErrForm)
		parsed(t, bad+".1", 0, api.ErrForm)
		parsed(t, "1."+bad, 0, api.ErrForm)
		parsed(t, "1."+bad+".3.4", 0, api.ErrForm)
		parsed(t, "1.2.3."+bad, 0, api.ErrForm)
		parsed(t, "1.2.3."+bad+".", 0, api.ErrForm)
		parsed(t, "1.2.3.4."+bad, 0, api.ErrForm)
	}
	parsed(t, "::1", 0, api.ErrForm)
	parsed(t, "example.com", 0, api.ErrForm)
	parsed(t, "1.2.3.4/8", 0, api.ErrForm)
	parsed(t, "1.2.3.4:80", 0, api.ErrForm)
}

func TestP10_3Long(t *testing.T) {
	const n = 1 << 18
	noughts, dots := strings.Repeat("0", n), strings.Repeat(".", n)
	parsed(t, noughts+"177."+noughts+".0x"+noughts+"."+noughts+"1.", 0x7F000001, api.OK)
	parsed(t, "1"+noughts, 0, api.ErrLong)
	parsed(t, "1.2.3.1"+noughts, 0, api.ErrLong)
	parsed(t, "1"+noughts+".x", 0, api.ErrForm)
	parsed(t, dots, 0, api.ErrForm)
	parsed(t, "1"+dots, 0, api.ErrForm)
	parsed(t, strings.Repeat("1.", n), 0, api.ErrForm)
	ends(t, dots, false)
	ends(t, dots+"1", true)
	ends(t, strings.Repeat("a.", n)+"0x"+noughts+".", true)
	ends(t, strings.Repeat("1.", n)+strings.Repeat("9", n)+"a", false)
	ends(t, strings.Repeat("9", n), true)
}

func TestP10_4Ordinary(t *testing.T) {
	for a, want := range map[uint32]string{
		0:          "0.0.0.0",
		1:          "0.0.0.1",
		255:        "0.0.0.255",
		256:        "0.0.1.0",
		0xFFFF:     "0.0.255.255",
		0x10000:    "0.1.0.0",
		0xFFFFFF:   "0.255.255.255",
		0x1000000:  "1.0.0.0",
		0x01020304: "1.2.3.4",
		0x0A09630A: "10.9.99.10",
		0x64C86401: "100.200.100.1",
		0x7F000001: "127.0.0.1",
		0x80000000: "128.0.0.0",
		0xC0A80001: "192.168.0.1",
		0xFF000000: "255.0.0.0",
		0xFFFFFFFE: "255.255.255.254",
		0xFFFFFFFF: "255.255.255.255",
	} {
		text(t, a, want)
	}
	for b := range uint32(256) {
		for place := range 4 {
			a := b << (8 * place)
			text(t, a, wordsText(a))
			text(t, ^a, wordsText(^a))
		}
		text(t, b*0x01010101, fmt.Sprintf("%[1]d.%[1]d.%[1]d.%[1]d", b))
	}
}

func TestP10_5ThereAndBack(t *testing.T) {
	back := func(a uint32) {
		parsed(t, Text(a), a, api.OK)
		parsed(t, Text(a)+".", a, api.OK)
		ends(t, Text(a), true)
	}
	for low := range uint32(1 << 16) {
		back(low)
		back(low << 8)
		back(low << 16)
		back(^low)
		back(low * 0x00010001)
	}
	pick := rand.New(rand.NewPCG(5, 10))
	for range 100000 {
		back(pick.Uint32())
	}
}

// All the ways of one address, in one to four parts, each part by each base.
func TestP10_5HoweverWritten(t *testing.T) {
	forms := []string{"%d", "0%o", "00%o", "0x%x", "0X%X", "0x0%x"}
	for _, a := range []uint32{0, 1, 0x7F000001, 0x01020304, 0xC0A80001, 0x08090A0F, 0xFFFFFFFF, 0x80000000, 0xFF00FF00} {
		for many := 1; many <= 4; many++ {
			ways(t, a, many, "", forms)
		}
	}
}

// ways holds Parse, and Text of what it answers, to a, written in that many parts of all these forms behind what is written already.
func ways(t *testing.T, a uint32, left int, written string, forms []string) {
	t.Helper()
	done := strings.Count(written, ".")
	for _, form := range forms {
		if left > 1 {
			ways(t, a, left-1, written+fmt.Sprintf(form, byte(a>>(8*(3-done))))+".", forms)
			continue
		}
		s := written + fmt.Sprintf(form, uint64(a)&(1<<(8*(4-done))-1))
		for _, s := range []string{s, s + "."} {
			got, e := Parse(s)
			if got != a || e != api.OK {
				t.Errorf("Parse(%q): %x, %v, not %x", s, got, e, a)
			}
			text(t, got, wordsText(a))
		}
	}
}

func TestP10_5ByTheWords(t *testing.T) {
	texts(3, pieces, func(s string) { byWords(t, s) })
	texts(7, fewPieces, func(s string) { byWords(t, s) })
	texts(3, partPieces, func(s string) { byWords(t, s) })
	for seed := range uint64(3000) {
		byWords(t, picked(seed, int(seed%12), pieces))
		byWords(t, picked(seed, int(seed%24), fewPieces))
	}
}

// Rows of one to five parts of all kinds, with and without a dot behind them.
func TestP10_5PartsByTheWords(t *testing.T) {
	var dotted []string
	for _, part := range partPieces {
		dotted = append(dotted, part+".")
	}
	texts(3, dotted, func(s string) {
		byWords(t, s)
		byWords(t, strings.TrimSuffix(s, "."))
	})
	for seed := range uint64(30000) {
		s := picked(seed, 4+int(seed%2), dotted)
		byWords(t, s)
		byWords(t, strings.TrimSuffix(s, "."))
	}
}

// What was answered once stays as it is, whatever is asked later.
func TestP10_5AnswersStay(t *testing.T) {
	held := map[string]string{}
	for _, a := range []uint32{0, 0x01020304, 0x7F000001, 0xFFFFFFFF} {
		held[wordsText(a)] = Text(a)
	}
	number(t, "0x7f", 127, api.OK)
	for a := range uint32(1000) {
		Text(a * 0x00F1E2D3)
		for _, s := range []string{"", "1.2.3.4", "0x", "4294967296", "08", "256.1"} {
			Number(s)
			Ends(s)
			Parse(s)
		}
	}
	for want, got := range held {
		if got != want {
			t.Errorf("%q became %q", want, got)
		}
	}
	number(t, "0x7f", 127, api.OK)
	number(t, "127", 127, api.OK)
	parsed(t, "127.1", 0x7F000001, api.OK)
}

// An answer is memory of its own, even where it is the same text as an earlier one.
func TestP10_5AnswersAreNew(t *testing.T) {
	for _, a := range []uint32{0, 0x01020304, 0xFFFFFFFF} {
		if unsafe.StringData(Text(a)) == unsafe.StringData(Text(a)) {
			t.Errorf("Text(%x): twice the same memory", a)
		}
	}
}
