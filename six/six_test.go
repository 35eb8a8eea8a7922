package six

import (
	"fmt"
	"math/rand/v2"
	"net/netip"
	"strings"
	"testing"
	"unsafe"

	"portcullis/api"
)

// bits is some of all kinds: digits and what stands beside them in ASCII, colons, dots, numbers at their bounds, signs, blanks, brackets, bytes that are not ASCII.
var bits = []string{
	":", "::", ":::", ".", "..", "0", "1", "9", "a", "f", "A", "F", "g", "G", "/", "@", "`", "x", "0x", "-", "+", "_", " ", "\t", "\n", "\x00", "%", "[", "]",
	"00", "0000", "00000", "ffff", "12345", "1:", "1:2:3:4:5:6:", "1:2:3:4:5:6:7:", "1.2.3.4", "255", "256", "01", "\x80", "\xff", "\u0661", "\uFF11",
}

// fewBits is the same, for longer texts: what changes where a piece, a row or a number begins, ends, or is none.
var fewBits = []string{":", "::", "1:2:", "0", "f", ".", "1.2.3."}

// forms is the ways of one piece; not all of them are for each.
var forms = []string{"%x", "%X", "%02x", "%03X", "%04x", "%04X"}

func TestP11_1Examples(t *testing.T) {
	parsed(t, "::1", [8]uint16{7: 1}, api.OK)
	parsed(t, "1:2:3:4:5:6:7:8", [8]uint16{1, 2, 3, 4, 5, 6, 7, 8}, api.OK)
	parsed(t, "::ffff:1.2.3.4", [8]uint16{5: 0xFFFF, 6: 0x102, 7: 0x304}, api.OK)
	parsed(t, "1:2:3:4:5:6:7::", [8]uint16{1, 2, 3, 4, 5, 6, 7, 0}, api.OK)
	refused(t, "1::2::3", "1:2", "12345::", "::1.2.3")
}

func TestP11_1Ordinary(t *testing.T) {
	for s, want := range map[string][8]uint16{
		"0:0:0:0:0:0:0:0":                         {},
		"2001:db8:0:1:ab:cd:ef:12":                {0x2001, 0xDB8, 0, 1, 0xAB, 0xCD, 0xEF, 0x12},
		"2001:0DB8:0000:0001:00AB:00cd:0eF0:0012": {0x2001, 0xDB8, 0, 1, 0xAB, 0xCD, 0xEF0, 0x12},
		"ffff:FFFF:fFfF:FfFf:8000:7fff:1:0":       {0xFFFF, 0xFFFF, 0xFFFF, 0xFFFF, 0x8000, 0x7FFF, 1, 0},
		"0123:4567:89ab:cdef:0123:4567:89AB:CDEF": {0x123, 0x4567, 0x89AB, 0xCDEF, 0x123, 0x4567, 0x89AB, 0xCDEF},
		"::":                       {},
		"::8":                      {7: 8},
		"::7:8":                    {6: 7, 7: 8},
		"::2:3:4:5:6:7:8":          {0, 2, 3, 4, 5, 6, 7, 8},
		"1::":                      {0: 1},
		"1:2::":                    {0: 1, 1: 2},
		"fe80::1":                  {0: 0xFE80, 7: 1},
		"FE80::A:b":                {0: 0xFE80, 6: 0xA, 7: 0xB},
		"1:2:3::8":                 {1, 2, 3, 0, 0, 0, 0, 8},
		"1::4:5:6:7:8":             {1, 0, 0, 4, 5, 6, 7, 8},
		"0::0":                     {},
		"0:0::1:0":                 {6: 1},
		"1:2:3:4:5:6:1.2.3.4":      {1, 2, 3, 4, 5, 6, 0x102, 0x304},
		"1:2:3:4:5:6:255.254.10.0": {1, 2, 3, 4, 5, 6, 0xFFFE, 0xA00},
		"::1.2.3.4":                {6: 0x102, 7: 0x304},
		"::0.0.0.0":                {},
		"::0.0.0.1":                {7: 1},
		"::FFFF:192.168.0.1":       {5: 0xFFFF, 6: 0xC0A8, 7: 1},
		"1::99.100.199.200":        {0: 1, 6: 0x6364, 7: 0xC7C8},
		"64:ff9b::203.0.113.9":     {0: 0x64, 1: 0xFF9B, 6: 0xCB00, 7: 0x7109},
		"1:2::5:6:127.0.0.1":       {1, 2, 0, 0, 5, 6, 0x7F00, 1},
	} {
		parsed(t, s, want, api.OK)
	}
}

func TestP11_1Colons(t *testing.T) {
	parsed(t, "::", [8]uint16{}, api.OK)
	refused(t,
		"", ":", ":::", "::::", ":::::", "1", "1:", ":1", ":1:", "1:::2", "1:::", ":::1", "1::::2", "::1:", ":1::", "1::2:", ":1::2", "::1::", "1::2::", "::1::2", "::2::3", "1::2::3", "1::3::", "::0::0",
		"1:2:3:4:5:6:7:8:", ":1:2:3:4:5:6:7:8", "1:2:3:4:5:6:7:", ":2:3:4:5:6:7:8", ":1:2:3:4:5:6:7", "1:2:3:4::5:6:7::", "::1:2:3::4:5", "1:2:3:4:5:6:7:::", ":::2:3:4:5:6:7:8",
		"1:2:::7:8", "::1.2.3.4:", ":1.2.3.4", ":1:2:3:4:5:6:1.2.3.4", ":::1.2.3.4", "1::2::1.2.3.4",
	)
}

// How many pieces there are, with and without two colons at each place, and with four numbers at the end.
func TestP11_1HowMany(t *testing.T) {
	for many := range 12 {
		list := strings.Split("1:2:3:4:5:6:7:8:9:a:b", ":")[:many:many]
		dotted := append(list, "1.2.3.4")
		counted(t, strings.Join(list, ":"), many == 8)
		counted(t, strings.Join(dotted, ":"), many == 6)
		for at := range many + 1 {
			front := strings.Join(list[:at], ":") + "::"
			counted(t, front+strings.Join(list[at:], ":"), many < 8)
			counted(t, front+strings.Join(dotted[at:], ":"), many < 6)
		}
	}
}

// counted holds Parse of s to the words, and to whether s has as many pieces as an address.
func counted(t *testing.T, s string, ok bool) {
	t.Helper()
	byWords(t, s)
	if _, e := Parse(s); (e == api.OK) != ok {
		t.Errorf("Parse(%q): %v", s, e)
	}
}

// Two colons stand for one piece, for more, or for all; never for none.
func TestP11_1TwoColonsStandFor(t *testing.T) {
	for s, want := range map[string][8]uint16{
		"::2:3:4:5:6:7:8":     {0, 2, 3, 4, 5, 6, 7, 8},
		"1::3:4:5:6:7:8":      {1, 0, 3, 4, 5, 6, 7, 8},
		"1:2:3:4::6:7:8":      {1, 2, 3, 4, 0, 6, 7, 8},
		"1:2:3:4:5:6::8":      {1, 2, 3, 4, 5, 6, 0, 8},
		"1:2:3:4:5:6:7::":     {1, 2, 3, 4, 5, 6, 7, 0},
		"::8":                 {7: 8},
		"1::":                 {0: 1},
		"1:2:3:4:5::1.2.3.4":  {1, 2, 3, 4, 5, 0, 0x102, 0x304},
		"::2:3:4:5:6:1.2.3.4": {0, 2, 3, 4, 5, 6, 0x102, 0x304},
		"1:2::4:5:6:1.2.3.4":  {1, 2, 0, 4, 5, 6, 0x102, 0x304},
	} {
		parsed(t, s, want, api.OK)
	}
	refused(t,
		"::1:2:3:4:5:6:7:8", "1::2:3:4:5:6:7:8", "1:2:3:4::5:6:7:8", "1:2:3:4:5:6:7::8", "1:2:3:4:5:6:7:8::",
		"::1:2:3:4:5:6:1.2.3.4", "1:2:3:4:5:6::1.2.3.4", "1:2:3::4:5:6:1.2.3.4", "1:2:3:4:5:6:7::1.2.3.4",
		"1:2:3:4:5:6:7:8::1:2:3:4:5:6:7:8", "::1:2:3:4:5:6:7:8:9", "1:2:3:4:5:6:7:8:9::",
	)
}

func TestP11_1Digits(t *testing.T) {
	const small, capital = "0123456789abcdef", "0123456789ABCDEF"
	for b := range 256 {
		if b == ':' {
			continue // it ends a piece
		}
		one := string([]byte{byte(b)})
		d := max(strings.IndexByte(small, byte(b)), strings.IndexByte(capital, byte(b)))
		for _, c := range []struct{ front, back string }{{"", ""}, {"1", ""}, {"", "1"}, {"ab", "c"}, {"", "000"}, {"000", ""}} {
			s := c.front + one + c.back
			for at := range 8 {
				list := strings.Split("1:2:3:4:5:6:7:8", ":")
				list[at] = s
				if d < 0 {
					refused(t, strings.Join(list, ":"))
					continue
				}
				want := [8]uint16{1, 2, 3, 4, 5, 6, 7, 8}
				want[at] = value(c.front+fmt.Sprintf("%x", d)+c.back, 16)
				parsed(t, strings.Join(list, ":"), want, api.OK)
			}
			if d < 0 {
				refused(t, s+"::", "::"+s, "1::"+s+":2", s+"::1.2.3.4")
			}
		}
	}
}

func TestP11_1LongPieces(t *testing.T) {
	for s, n := range map[string]uint16{"0": 0, "00": 0, "000": 0, "0000": 0, "1": 1, "01": 1, "001": 1, "0001": 1, "12": 0x12, "012": 0x12, "0012": 0x12, "123": 0x123, "0123": 0x123, "1234": 0x1234, "fFfF": 0xFFFF} {
		parsed(t, "::"+s, [8]uint16{7: n}, api.OK)
		parsed(t, s+"::", [8]uint16{0: n}, api.OK)
		parsed(t, "1::"+s+":2", [8]uint16{0: 1, 6: n, 7: 2}, api.OK)
		parsed(t, "1:2:3:4:5:6:7:"+s, [8]uint16{1, 2, 3, 4, 5, 6, 7, n}, api.OK)
		parsed(t, "1:2:3:4:5:"+s+":1.2.3.4", [8]uint16{1, 2, 3, 4, 5, n, 0x102, 0x304}, api.OK)
	}
	for _, s := range []string{"00000", "00001", "01234", "12345", "10000", "fffff", "000000000000", "10001", "100000000", "10000000000000001"} {
		refused(t, "::"+s, s+"::", "1::"+s+":2", "1:2:3:4:5:6:7:"+s, s+":2:3:4:5:6:7:8", "1:2:3:4:5:"+s+":1.2.3.4", "::"+s+":1.2.3.4")
	}
}

func TestP11_1Numbers(t *testing.T) {
	for n := range uint16(256) {
		parsed(t, fmt.Sprintf("::%d.1.2.3", n), [8]uint16{6: n<<8 | 1, 7: 0x203}, api.OK)
		parsed(t, fmt.Sprintf("::1.%d.2.3", n), [8]uint16{6: 0x100 | n, 7: 0x203}, api.OK)
		parsed(t, fmt.Sprintf("1:2:3:4:5:6:1.2.%d.3", n), [8]uint16{1, 2, 3, 4, 5, 6, 0x102, n<<8 | 3}, api.OK)
		parsed(t, fmt.Sprintf("1::5:1.2.3.%d", n), [8]uint16{0: 1, 5: 5, 6: 0x102, 7: 0x300 | n}, api.OK)
	}
	for _, bad := range []string{
		"", "256", "257", "260", "300", "999", "1000", "65536", "4294967296", "4294967297", "18446744073709551616", "18446744073709551617", "00", "01", "000", "001", "010", "0255", "0000000001",
		"a", "f", "1a", "a1", "0x1", "0X1", "x", "+1", "-1", "-0", " 1", "1 ", "1_0", "1e1", "1,", "\xff", "1\x80", "\u0661", "\uFF11", "%31", "[1]",
	} {
		refused(t, "::"+bad+".2.3.4", "::1."+bad+".3.4", "::1.2."+bad+".4", "::1.2.3."+bad, "1:2:3:4:5:6:1.2.3."+bad, "1:2:3:4:5:6:"+bad+".2.3.4")
	}
}

func TestP11_1Dots(t *testing.T) {
	refused(t,
		".", "..", "...", "....", "::.", ".::", "::..", "::...", "::....", "1.2.3.4", "1.2.3.4.", ".1.2.3.4", "0.0.0.0", "1.2.3.4.5", "1.2.3.4.5.6.7.8", "1.2.3.4:", "1.2.3.4:1.2.3.4",
		"::1.", "::.1", "::1.2", "::1.2.", "::1.2.3", "::1.2.3.", "::.1.2.3", "::1..2.3", "::1.2..3", "::.2.3.4", "::1.2.3.4.", "::.1.2.3.4", "::1.2.3.4.5", "::1.2.3..4", "::1.2.3.4..", "::1.2.3.4.5.6",
		"1.2.3.4::", "1.2.3.4::1", "1.2.3.4::1.2.3.4", "::1.2.3.4:5", "::1.2.3.4:5:6", "::1.2.3.4::", "1::1.2.3.4:5", "::1.2.3.4:1.2.3.4", "1:2:3:4:5:1.2.3.4:8", "1.2.3.4:3:4:5:6:7:8", "1:2:3:1.2.3.4:6:7:8",
		"1.2.3.4:3:4:5:6:1.2.3.4", "1:2:3:4:5:6:7:1.2.3.4", "1:2:3:4:5:6:7:8:1.2.3.4", "1:2:3:4:5:1.2.3.4", "1:1.2.3.4", "1:2:3:4:5:6:1.2.3", "1:2:3:4:5:6:7:1.2", "1:2:3:4:5:6:7.8", "1:2:3:4:5:6:7:8.9", "1:2:3:4:5:6:7.8:9",
		"1:2:3:4:5:6:1.2:3.4", "::1.2:3.4", "::a.b.c.d", "::ff.1.2.3", "1:2:3:4:5:6:1:2.3.4",
	)
}

func TestP11_1WrongInputs(t *testing.T) {
	wrong := []string{
		"+", "-", " ", "\t", "\n", "\r", "\x00", ".", ",", "_", "%", "%25", "/", ";", "g", "G", "x", "z", "[", "]", "(", "*", "@", "`", "\x80", "\xba", "\xff", "\u0661", "\uFF11", "\uFF1A", "\uFF41", "\u3002",
	}
	for _, bad := range wrong {
		refused(t, bad)
		for _, good := range []string{"::", "::1", "1::", "a:b::c:d", "1:2:3:4:5:6:7:8", "::ffff:1.2.3.4", "1:2:3:4:5:6:1.2.3.4"} {
			for at := range len(good) + 1 {
				refused(t, good[:at]+bad+good[at:])
			}
		}
	}
	refused(t, "[::1]", "[::]", "[1:2:3:4:5:6:7:8]", "::1%eth0", "fe80::1%1", "::1/64", "[::1]:80", "0x1::", "::0x1", "0x1:2:3:4:5:6:7:8", "::g", "example.com", "a", "ffff", "1-2", "::-1", "::+1", "1_0::", "::1_0")
}

func TestP11_1Long(t *testing.T) {
	const n = 1 << 18
	for _, one := range []string{":", "::", "1:", ":1", "1::", "0", "1", ".", "1.", "f", "1.2.3.4:", "\xff", " "} {
		long := strings.Repeat(one, n)
		refused(t, long, "::"+long, long+"::", "1:2:3:4:5:6:7:"+long, long+":2:3:4:5:6:7:8", "::1.2.3."+long, long+"1.2.3.4")
	}
}

func TestP11_2Examples(t *testing.T) {
	text(t, [8]uint16{1, 0, 0, 2, 0, 0, 0, 3}, "1:0:0:2::3")
	text(t, [8]uint16{}, "::")
	text(t, [8]uint16{1, 0, 2, 3, 4, 5, 6, 7}, "1:0:2:3:4:5:6:7")
}

func TestP11_2Rows(t *testing.T) {
	for want, a := range map[string][8]uint16{
		"1:2:3:4:5:6:7:8":             {1, 2, 3, 4, 5, 6, 7, 8}, // no row
		"0:2:3:4:5:6:7:8":             {0, 2, 3, 4, 5, 6, 7, 8}, // one alone
		"1:2:3:0:5:6:7:8":             {1, 2, 3, 0, 5, 6, 7, 8},
		"1:2:3:4:5:6:7:0":             {1, 2, 3, 4, 5, 6, 7, 0},
		"0:2:0:4:0:6:0:8":             {0, 2, 0, 4, 0, 6, 0, 8},
		"1:0:3:0:5:0:7:0":             {1, 0, 3, 0, 5, 0, 7, 0},
		"::3:4:5:6:7:8":               {0, 0, 3, 4, 5, 6, 7, 8}, // two
		"1::4:5:6:7:8":                {1, 0, 0, 4, 5, 6, 7, 8},
		"1:2:3:4:5::8":                {1, 2, 3, 4, 5, 0, 0, 8},
		"1:2:3:4:5:6::":               {1, 2, 3, 4, 5, 6, 0, 0},
		"0:2::5:6:7:8":                {0, 2, 0, 0, 5, 6, 7, 8}, // behind one alone
		"0:2:0:4::":                   {0, 2, 0, 4, 0, 0, 0, 0},
		"::3:4:5:6:0:0":               {0, 0, 3, 4, 5, 6, 0, 0}, // two of equal length
		"1::4:0:0:7:8":                {1, 0, 0, 4, 0, 0, 7, 8},
		"1::5:0:0:0":                  {1, 0, 0, 0, 5, 0, 0, 0},
		"::4:0:0:0:8":                 {0, 0, 0, 4, 0, 0, 0, 8},
		"::3:0:0:6:0:0":               {0, 0, 3, 0, 0, 6, 0, 0}, // three of equal length
		"0:0:3::7:8":                  {0, 0, 3, 0, 0, 0, 7, 8}, // a longer one behind a shorter one
		"0:0:3:4:5::":                 {0, 0, 3, 4, 5, 0, 0, 0},
		"0:0:0:4::":                   {0, 0, 0, 4, 0, 0, 0, 0},
		"::4:5:6:0:0":                 {0, 0, 0, 4, 5, 6, 0, 0}, // ahead of it
		"::5:0:0:0":                   {0, 0, 0, 0, 5, 0, 0, 0},
		"::8":                         {7: 8}, // all but one
		"1::":                         {0: 1},
		"1::8":                        {0: 1, 7: 8},
		"::7:0":                       {6: 7},
		"0:2::":                       {1: 2},
		"::ffff:102:304":              {5: 0xFFFF, 6: 0x102, 7: 0x304}, // never in tens
		"::102:304":                   {6: 0x102, 7: 0x304},
		"abcd:ef::1":                  {0: 0xABCD, 1: 0xEF, 7: 1},
		"a:b0:c00:d000:e:f::":         {0xA, 0xB0, 0xC00, 0xD000, 0xE, 0xF, 0, 0},
		"1000:10:100:1:ffff:fff:ff:f": {0x1000, 0x10, 0x100, 1, 0xFFFF, 0xFFF, 0xFF, 0xF},
		"ffff:ffff:ffff:ffff:ffff:ffff:ffff:ffff": {0xFFFF, 0xFFFF, 0xFFFF, 0xFFFF, 0xFFFF, 0xFFFF, 0xFFFF, 0xFFFF},
		"8000:0:8000:0:8000:0:8000:0":             {0x8000, 0, 0x8000, 0, 0x8000, 0, 0x8000, 0},
	} {
		text(t, a, want)
	}
}

// Each way in which noughts may stand among eight pieces.
func TestP11_2EachPattern(t *testing.T) {
	for _, n := range []uint16{1, 0x10, 0xA0, 0x100, 0x1000, 0x8000, 0xABCD, 0xFFFF} {
		for pattern := range 256 {
			var a [8]uint16
			for i := range 8 {
				a[i] = n * uint16(pattern>>i&1)
			}
			text(t, a, wordsText(a))
		}
	}
}

func TestP11_2EachPiece(t *testing.T) {
	for n := range 1 << 16 {
		a := [8]uint16{1, 2, 3, 4, 5, 6, 7, 8}
		at := n % 8
		a[at] = uint16(n)
		text(t, a, wordsText(a))
		text(t, [8]uint16{uint16(n)}, wordsText([8]uint16{uint16(n)}))
		text(t, [8]uint16{7: uint16(n)}, wordsText([8]uint16{7: uint16(n)}))
	}
}

func TestP11_3ThereAndBack(t *testing.T) {
	for pattern := range 3 * 3 * 3 * 3 * 3 * 3 * 3 * 3 {
		var a [8]uint16
		for i, rest := 0, pattern; i < 8; i, rest = i+1, rest/3 {
			a[i] = []uint16{0, 1, 0xF00D}[rest%3]
		}
		back(t, a)
	}
	pick := rand.New(rand.NewPCG(3, 11))
	for range 100000 {
		var a [8]uint16
		for i := range a {
			a[i] = uint16(pick.Uint32()) >> pick.IntN(17)
		}
		back(t, a)
	}
}

// All texts of one address are read as arrays that are equal, and have one text.
func TestP11_3HoweverWritten(t *testing.T) {
	for pattern := range 256 {
		for _, n := range []uint16{1, 0xAB, 0xFACE} {
			var a [8]uint16
			for i := range 8 {
				a[i] = n * uint16(pattern>>i&1)
			}
			first, many := wordsText(a), 0
			writings(a, forms, func(s string) {
				many++
				got, e := Parse(s)
				if got != a || e != api.OK {
					t.Errorf("Parse(%q): %x, %v, not %x", s, got, e, a)
				}
				text(t, got, first)
			})
			if many < 2*len(forms) {
				t.Fatalf("%x: only %d texts", a, many)
			}
		}
	}
}

func TestP11_3EqualArrays(t *testing.T) {
	one, _ := Parse("2001:db8::1:0")
	seen := map[[8]uint16]int{}
	for _, s := range []string{"2001:db8::1:0", "2001:DB8::1:0", "2001:0db8:0:0:0:0:1:0", "2001:db8:0:0:0:0:1:0000", "2001:db8::0.1.0.0", "2001:db8:0::0.1.0.0", "2001:db8:0:0:0:0:1::", "2001:0DB8::0:0001:0000"} {
		a, e := Parse(s)
		if a != one || e != api.OK {
			t.Errorf("Parse(%q): %x, %v, not %x", s, a, e, one)
		}
		seen[a]++
	}
	if len(seen) != 1 || seen[[8]uint16{0x2001, 0xDB8, 0, 0, 0, 0, 1, 0}] != 8 {
		t.Errorf("one address is %d: %v", len(seen), seen)
	}
	if other, _ := Parse("2001:db8::1:1"); other == one {
		t.Error("two addresses are one")
	}
}

func TestP11_3ByTheWords(t *testing.T) {
	texts(3, bits, func(s string) { byWords(t, s) })
	texts(6, fewBits, func(s string) { byWords(t, s) })
	for seed := range uint64(20000) {
		byWords(t, picked(seed, int(seed%12), bits))
		byWords(t, picked(seed, int(seed%24), fewBits))
	}
}

// Addresses of all kinds with one byte of them changed, taken away or put in.
func TestP11_3NearlyByTheWords(t *testing.T) {
	pick := rand.New(rand.NewPCG(4, 11))
	const bytes = "0123456789abcdefABCDEF:::::.....gG/%[ \xff"
	for pattern := range 256 {
		var a [8]uint16
		for i := range 8 {
			a[i] = uint16(pick.Uint32()) >> pick.IntN(16) * uint16(pattern>>i&1)
		}
		writings(a, []string{"%x", "%04X"}, func(s string) {
			at, c := pick.IntN(len(s)), bytes[pick.IntN(len(bytes)):][:1]
			byWords(t, s[:at]+c+s[at+1:])
			byWords(t, s[:at]+s[at+1:])
			byWords(t, s[:at]+c+s[at:])
		})
	}
}

// The library knows the same addresses, but for zones, and tells the same texts, but for those of IPv4 inside.
func TestP11_3AsTheLibrary(t *testing.T) {
	texts(6, fewBits, func(s string) {
		theirs, err := netip.ParseAddr(s)
		a, e := Parse(s)
		if (e == api.OK) != (err == nil && theirs.Is6()) {
			t.Errorf("Parse(%q): %v, not %v", s, e, err)
			return
		}
		if e != api.OK {
			return
		}
		for i, b := range theirs.As16() {
			if byte(a[i/2]>>(8*(1-i%2))) != b {
				t.Errorf("Parse(%q): %x, not %v", s, a, theirs)
				return
			}
		}
		if !theirs.Is4In6() {
			text(t, a, theirs.String())
		}
	})
}

// What was answered once stays as it is, whatever is asked later; what was handed in stays, too.
func TestP11_3AnswersStay(t *testing.T) {
	given := [8]uint16{1, 0, 0, 2, 0, 0, 0, 3}
	told := Text(given)
	empty := Text([8]uint16{})
	read, _ := Parse("1:0:0:2::3")
	for n := range uint16(1000) {
		later := Text([8]uint16{n, 0, 0, n, 9, 9, 9, n})
		Text([8]uint16{})
		for _, s := range []string{"", "::", later, "f:e:d:c:b:a:9:8", "9::9.9.9.9", "1::2::3", "9:9:9:9:9:9:9:g"} {
			if a, e := Parse(s); e == api.OK {
				a[0], a[7] = 0xBAD, 0xBAD // a copy of one's own
			}
		}
	}
	if given != [8]uint16{1, 0, 0, 2, 0, 0, 0, 3} || read != given || told != "1:0:0:2::3" || empty != "::" {
		t.Errorf("they became %x, %x, %q, %q", given, read, told, empty)
	}
	parsed(t, "1:0:0:2::3", given, api.OK)
	parsed(t, "::", [8]uint16{}, api.OK)
	text(t, given, "1:0:0:2::3")
}

// An answer is memory of its own, even where it is the same text as an earlier one.
func TestP11_3AnswersAreNew(t *testing.T) {
	for _, a := range [][8]uint16{{}, {7: 1}, {1, 2, 3, 4, 5, 6, 7, 8}} {
		if unsafe.StringData(Text(a)) == unsafe.StringData(Text(a)) {
			t.Errorf("Text(%x): twice the same memory", a)
		}
	}
}
