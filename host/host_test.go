package host

import (
	"math/rand/v2"
	"strings"
	"testing"
	"unsafe"

	"portcullis/api"
	"portcullis/idna"
	"portcullis/pct"
	"portcullis/six"
	"portcullis/utf"
)

// bits is some of all kinds: letters, dots of each kind, numbers, brackets and what stands between them, forbidden signs, percent signs that tell something and that tell nothing, what is mapped, ignored and disallowed, bytes that are not well-formed.
var bits = []string{
	"a", "B", "-", "_", ".", "\u3002", "\uFF0E", "0", "1", "09", "0x", "0X7f", "255", "256", "4294967296", "1.2.3.4",
	"[", "]", ":", "::", "::1", "[::1]", "[1:2:3:4:5:6:7:8]", "%", "%41", "%2e", "%25", "%5B", "%5d", "%zz", "%00", "%C3", "%a9", "%C3%A9", "%C2%AD",
	" ", "/", "#", "?", "@", "\\", "^", "|", "<", ">", "\x00", "\t", "\n", "\x01", "\x1f", "\x7f", "!", "\"", "`", "{", "~",
	"\u00E9", "\u00DC", "u\u0308", "\u0308", "\u00DF", "\u00AD", "\uFF21", "\uFF11", "\uFF05", "\uFF0F", "\u00B2", "\u05D0", "\u200D", "\u4E00", "\U0001F600",
	"xn--", "xn--tda", "XN--TDA", "xn--abc-", "\u0305", "\uFFFD", "\xff", "\xc3", "\xa9", "\xe2\x82", "\xed\xa0\x80",
}

// fewBits is the same, for longer texts: what changes which kind a host is of, or whether it is one.
var fewBits = []string{"[", "]", "::", "1", ".", "a", "%", "25", "\u00AD", "\u00E9", " "}

// percents is b, told by a percent sign and digits of both kinds.
func percents(b byte) []string {
	one := byPercent(string([]byte{b}))
	return []string{one, strings.ToUpper(one)}
}

func TestP12_1Examples(t *testing.T) {
	parsed(t, "EXAMPLE.com", true, domain("example.com"), api.OK)
	parsed(t, "0x7f.1", true, fourOf(0x7F000001), api.OK)
	parsed(t, "[::1]", true, sixOf(0, 0, 0, 0, 0, 0, 0, 1), api.OK)
	parsed(t, "%41.b", true, domain("a.b"), api.OK)
	refused(t, true, "a b", "a.256", "")
	parsed(t, "A%41\u00E9", false, opaque("A%41%C3%A9"), api.OK)
	parsed(t, "", false, api.Host{}, api.OK)
	refused(t, false, "a b")
}

func TestP12_1Domains(t *testing.T) {
	for s, want := range map[string]string{
		"a":                                    "a",
		"example.com":                          "example.com",
		"EXAMPLE.COM":                          "example.com",
		"eXaMpLe.CoM.":                         "example.com.",
		"www.a-b_c.d9":                         "www.a-b_c.d9",
		"\uFF25\uFF58ample\uFF0E\uFF23om":      "example.com",
		"a\u3002b\uFF61c\uFF0Ed":               "a.b.c.d",
		"%45%58ample%2E%63om":                  "example.com",
		"%65%78%61%6d%70%6c%65":                "example",
		"b\u00FCcher.de":                       "xn--bcher-kva.de",
		"B\u00DCCHER.DE":                       "xn--bcher-kva.de",
		"bu\u0308cher.de":                      "xn--bcher-kva.de",
		"b%C3%BCcher.de":                       "xn--bcher-kva.de",
		"b%c3\xBCcher.de":                      "xn--bcher-kva.de", // two bytes of one code point, told in two ways
		"b\xC3%bccher.de":                      "xn--bcher-kva.de",
		"BU%CC%88CHER%E3%80%82DE":              "xn--bcher-kva.de",
		"xn--bcher-kva.de":                     "xn--bcher-kva.de",
		"XN--BCHER-KVA.DE":                     "xn--bcher-kva.de",
		"%58N--bcher%2Dkva.de":                 "xn--bcher-kva.de",
		"\uFF38\uFF2E\uFF0D\uFF0Dbcher-kva.de": "xn--bcher-kva.de",
		"fa\u00DF.de":                          "xn--fa-hia.de",
		"\u1E9E":                               "ss",
		"\uFB01x":                              "fix",
		"\u4E00.\u3042":                        "xn--4gq.xn--l8j",
		"\u05D01.a":                            "xn--1-zhc.a",
		"\U0001F600":                           "xn--e28h",
		"ex\u00ADample":                        "example",
		"0xg":                                  "0xg",
		"a.b1":                                 "a.b1",
		"1.2.3.4a":                             "1.2.3.4a",
	} {
		parsed(t, s, true, domain(want), api.OK)
	}
}

func TestP12_1Fours(t *testing.T) {
	for s, want := range map[string]uint32{
		"127.0.0.1":                      0x7F000001,
		"127.0.0.1.":                     0x7F000001,
		"127.1":                          0x7F000001,
		"127.1.":                         0x7F000001,
		"0x7F.1":                         0x7F000001,
		"0X7f.0x0.0.0x1":                 0x7F000001,
		"0177.0.0.01":                    0x7F000001,
		"2130706433":                     0x7F000001,
		"0x7f000001":                     0x7F000001,
		"017700000001":                   0x7F000001,
		"\uFF11\uFF12\uFF17\uFF0E\uFF11": 0x7F000001,
		"127\u30021":                     0x7F000001,
		"%31%32%37.%31":                  0x7F000001,
		"%EF%BC%91%EF%BC%92%EF%BC%97.1":  0x7F000001,
		"\u00B927.\u00B9":                0x7F000001,
		"12\u00AD7.1":                    0x7F000001,
		"0":                              0,
		"0.":                             0,
		"00":                             0,
		"0x":                             0,
		"0x.0x.0X.0x.":                   0,
		"1.2.3.4":                        0x01020304,
		"1.2.772":                        0x01020304,
		"1.131844":                       0x01020304,
		"255.255.255.255":                0xFFFFFFFF,
		"4294967295":                     0xFFFFFFFF,
		"0xffffffff":                     0xFFFFFFFF,
		"0xFF.16777215":                  0xFFFFFFFF,
	} {
		parsed(t, s, true, fourOf(want), api.OK)
		if strings.Trim(s, "0123456789.xXfF") == "" {
			parsed(t, s, false, opaque(s), api.OK) // it is nothing but itself there
		}
	}
}

func TestP12_1Sixes(t *testing.T) {
	for s, want := range map[string]api.Host{
		"[::]":                          sixOf(),
		"[::1]":                         sixOf(0, 0, 0, 0, 0, 0, 0, 1),
		"[1::]":                         sixOf(1),
		"[0:0:0:0:0:0:0:1]":             sixOf(0, 0, 0, 0, 0, 0, 0, 1),
		"[2001:DB8::Ff]":                sixOf(0x2001, 0xDB8, 0, 0, 0, 0, 0, 0xFF),
		"[1:2:3:4:5:6:7:8]":             sixOf(1, 2, 3, 4, 5, 6, 7, 8),
		"[0001:2:03:4:5:6:7:0008]":      sixOf(1, 2, 3, 4, 5, 6, 7, 8),
		"[::ffff:1.2.3.4]":              sixOf(0, 0, 0, 0, 0, 0xFFFF, 0x102, 0x304),
		"[1:2:3:4:5:6:255.255.0.1]":     sixOf(1, 2, 3, 4, 5, 6, 0xFFFF, 1),
		"[ffff:FFFF::ffff:ffff:0:ffff]": sixOf(0xFFFF, 0xFFFF, 0, 0, 0xFFFF, 0xFFFF, 0, 0xFFFF),
	} {
		parsed(t, s, true, want, api.OK)
		parsed(t, s, false, want, api.OK)
	}
}

func TestP12_1Opaques(t *testing.T) {
	for s, want := range map[string]string{
		"a":                      "a",
		"EXAMPLE.com":            "EXAMPLE.com",
		"A%41\u00E9":             "A%41%C3%A9",
		"%":                      "%",
		"%%":                     "%%",
		"%zz%4":                  "%zz%4",
		"%00%0a%20%2F":           "%00%0a%20%2F", // what would be forbidden is told, not there
		"127.0.0.1":              "127.0.0.1",
		"0x7f.1":                 "0x7f.1",
		"a.256":                  "a.256",
		".":                      ".",
		"..":                     "..",
		"a..b":                   "a..b",
		"-":                      "-",
		"xn--a":                  "xn--a",
		"!\"$&'()*+,-.;=_`{}~":   "!\"$&'()*+,-.;=_`{}~",
		"\x01\x08\x0b\x1f\x7f":   "%01%08%0B%1F%7F",
		"\u00AD":                 "%C2%AD",
		"\uFF21\uFF05\uFF0F":     "%EF%BC%A1%EF%BC%85%EF%BC%8F",
		"e\u0301":                "e%CC%81",
		"\U0001F600\U0010FFFF":   "%F0%9F%98%80%F4%8F%BF%BF",
		"\u0080\u3002":           "%C2%80%E3%80%82",
		"a\xffb":                 "a%EF%BF%BDb",
		"\xe2\x82":               "%EF%BF%BD",
		"\xed\xa0\x80":           "%EF%BF%BD%EF%BF%BD%EF%BF%BD",
		"%c3\xa9":                "%c3%EF%BF%BD", // no percent sign is read
		strings.Repeat("a", 300): strings.Repeat("a", 300),
	} {
		parsed(t, s, false, opaque(want), api.OK)
	}
}

func TestP12_1Empty(t *testing.T) {
	parsed(t, "", true, api.Host{}, api.ErrHost)
	parsed(t, "", false, api.Host{}, api.OK)
}

func TestP12_1Long(t *testing.T) {
	long := func(s string, to int) string { return strings.Repeat(s, to/len(s)+1)[:to] }
	const most = 4096
	for _, one := range []string{"a", "a.", "aB1-.", "%61%2e", "\u00AD", "]", "1.", " ", "\xff"} {
		byWords(t, long(one, most-1))
		byWords(t, long(one, most))
		parsed(t, long(one, most+1), true, api.Host{}, api.ErrLong)
		parsed(t, long(one, most+1), false, api.Host{}, api.ErrLong)
		parsed(t, long(one, 1<<20), true, api.Host{}, api.ErrLong)
		parsed(t, long(one, 1<<20), false, api.Host{}, api.ErrLong)
	}
	parsed(t, long("a", most), true, domain(long("a", most)), api.OK)
	parsed(t, long("A.", most), true, domain(long("a.", most)), api.OK)
	parsed(t, long("a", most), false, opaque(long("a", most)), api.OK)
	parsed(t, long("0", most), true, fourOf(0), api.OK)
	parsed(t, long("\x01", most), false, opaque(long("%01", 3*most)), api.OK)
	parsed(t, long("\xff", most), false, opaque(long("%EF%BF%BD", 9*most)), api.OK)
	// A name may become longer, by its labels; it is one all the same.
	parsed(t, strings.Repeat("\u00FC.", 1365), true, domain(strings.Repeat("xn--tda.", 1365)), api.OK)
	// What counts is what is handed in, not what it tells.
	parsed(t, byPercent(long("a", 1365)), true, domain(long("a", 1365)), api.OK)
	parsed(t, byPercent(long("a", 1366)), true, api.Host{}, api.ErrLong)
	// Brackets: too long is named ahead of what stands between.
	refused(t, true, "["+long("0", most-2)+"]", "["+long(":", most-1), long("[", most), "["+long("1:", most-2)+"]")
	refused(t, false, "["+long("0", most-2)+"]", "["+long(":", most-1), long("[", most), "["+long("1:", most-2)+"]")
	for _, special := range []bool{true, false} {
		parsed(t, "["+long("0", most-1)+"]", special, api.Host{}, api.ErrLong)
		parsed(t, long("[", most+1), special, api.Host{}, api.ErrLong)
		parsed(t, "[::1]"+long("\x00", most), special, api.Host{}, api.ErrLong)
	}
}

func TestP12_1Brackets(t *testing.T) {
	for _, special := range []bool{true, false} {
		refused(t, special,
			"[", "]", "[]", "[[", "]]", "][", "[[]", "[]]", "[[]]", "[::1", "::1]", "]::1[", "[::1[", "]::1]", "[[::1]", "[::1]]", "[[::1]]", "[::1][::1]", "[::1]a", "[::1].", "[::1]:80", "[::1] ", "[::1]\x00", "[::1]%", "a[::1]", ".[::1]", " [::1]", "\x00[::1]",
			"[ ::1]", "[::1 ]", "[:]", "[:::]", "[1]", "[a]", "[1.2.3.4]", "[127.0.0.1]", "[example.com]", "[1:2]", "[1::2::3]", "[12345::]", "[::1.2.3]", "[::256.0.0.1]", "[::01.2.3.4]", "[::g]", "[1:2:3:4:5:6:7:8:9]", "[::1%eth0]", "[::1%25eth0]", "[v1.a]", "[%3A%3A1]", "[::%31]", "[::\uFF11]", "[\u00AD::1]", "[::1\u00AD]", "[::\xff]", "[\x00]",
			"::1", "::", "a[b", "a]b", "a[", "a]",
		)
	}
	// Told by a percent sign, or mapped, it is no bracket.
	refused(t, true, "%5B::1%5D", "%5b::1]", "[::1%5D", "\uFF3B::1]", "[::1\uFF3D", "\u00AD[::1]", "[::1]\u00AD")
	refused(t, false, "%5B::1%5D", "%5b::1]", "[::1%5D", "\uFF3B::1]", "[::1\uFF3D", "\u00AD[::1]")
	parsed(t, "%5B%5D", false, opaque("%5B%5D"), api.OK)
}

// Each byte at the front, in the midst, at the end and alone; told as itself, and by a percent sign.
func TestP12_1EachByte(t *testing.T) {
	for n := range 256 {
		b := byte(n)
		sign := string([]byte{b})
		for _, around := range []struct{ front, back string }{{"", ""}, {"a", "b"}, {"a", ""}, {"", "b"}, {"a.", ".b"}, {"a.b", ".c"}, {"a", "\u00FC"}} {
			s := around.front + sign + around.back
			byWords(t, s)
			if isForbidden[b] {
				refused(t, false, s)
			} else if _, e := Parse(s, false); e != api.OK {
				t.Errorf("Parse(%q, false): %v", s, e)
			}
			if isForbiddenInDomain[b] {
				refused(t, true, s)
			}
			for _, percent := range percents(b) {
				s = around.front + percent + around.back
				byWords(t, s)
				if isForbiddenInDomain[b] {
					refused(t, true, s)
				}
				if h, e := Parse(s, false); e != api.OK || h != opaque(pct.Encode(s, api.SetControl)) {
					t.Errorf("Parse(%q, false): %v, %v", s, h, e)
				}
			}
		}
	}
}

// What no name comes with today would be refused, too, if layer 7 let it through.
func TestP12_1ForbiddenInDomain(t *testing.T) {
	for b := range 128 {
		sign := string([]byte{byte(b)})
		for _, name := range []string{sign + "a", "a" + sign + "b", "a.b" + sign} {
			want, wantE := domain(name), api.OK
			if isForbiddenInDomain[b] {
				want, wantE = api.Host{}, api.ErrHost
			}
			if h, e := named(name); h != want || e != wantE {
				t.Errorf("named(%q): %s, %v", name, shown(h), e)
			}
		}
	}
}

func TestP12_1PercentSigns(t *testing.T) {
	// one that tells nothing
	refused(t, true, "%", "%%", "a%", "%a", "a%4", "%4", "%zz", "%4g", "%g4", "a.%", "%.a", "% 1", "%+1", "%\uFF14\uFF11", "%\u00AD41", "1%", "1.2.3.4%")
	// one that tells a percent sign: what comes of it tells nothing
	refused(t, true, "%25", "a%25", "%2541", "%2541.b", "%%341", "%25%34%31", "%2525", "%252e", "1.2.3.4%25")
	// wide ones become a percent sign, which tells nothing
	refused(t, true, "\uFF05", "\uFF0541", "a\uFF05b", "%EF%BC%85", "%EF%BC%8541", "\uFF0F", "a.\uFF0Fb", "%EF%BC%8F")
	parsed(t, "%61%62", true, domain("ab"), api.OK)
	parsed(t, "%41%5a%5A", true, domain("azz"), api.OK)
	parsed(t, "a%2eb%2E", true, domain("a.b."), api.OK)
	parsed(t, "1%2e2", true, fourOf(0x01000002), api.OK)
	parsed(t, "%30x%37f%2E1", true, fourOf(0x7F000001), api.OK)
	parsed(t, "%78n--tda", true, domain("xn--tda"), api.OK)
	refused(t, true, "a%2e256", "%32%35%36%2e1", "a%2E1%2e", "%30x1%2e1.1.1.1")
}

func TestP12_1EndsInNumber(t *testing.T) {
	for _, s := range []string{
		"a.1", "a.b.1", "a.09", "09", "08", "0.08", "a.0x", "a.0x1", "a.0X1f", "256.1", "1.256.1", "1.2.3.256", "1.2.65536", "1.16777216", "4294967296", "0x100000000", "040000000000", "99999999999999999999999", "0xffffffffffffffffffffffff", "1.0xffffffffffffffffffffffff",
		"1.2.3.4.5", "1.2.3.4.0x5", "1..2", ".1", "..1", "1.a.2", "a-1.1", "-1.1", "_.0", "xn--tda.1", "\u00FC.1", "\u00FC.\uFF11", "a.\u00B2", "a.1\u00AD", "1.2.3.08", "0x.0xg.1", "example.com.0", "a.00", "a.0000000000000000000000009",
	} {
		refused(t, true, s, s+".", s+"\u3002", s+"%2E")
		if strings.Trim(s, "0123456789abcdefxX.-_mnpol") == "" {
			parsed(t, s, false, opaque(s), api.OK)
		}
	}
	// two dots at the end: the last part is empty, and no number
	for _, s := range []string{"1..", "1.2.3.4..", "256..", "a.1..", "0x..", "1\u3002\u3002"} {
		parsed(t, s, true, domain(strings.ReplaceAll(s, "\u3002", ".")), api.OK)
	}
}

// A number in a label that is not the last, and labels that are nearly numbers.
func TestP12_1NoNumberAtTheEnd(t *testing.T) {
	for _, s := range []string{"1.a", "1.2.3.4.a", "256.256.256.256.256.a", "0x1.a", "08.b.", "4294967296.c", "a.1.b", "a.1.2.b.", "1a", "a1", "1-1", "1.2.3.4-5", "-1", "1_0", "0xg", "0x-", "a.0xg", "0x1.0x2g.", "1e1", "0b1", "0o7", "x1", "1x1", "00x1", "1.xn--tda"} {
		parsed(t, s, true, domain(s), api.OK)
	}
	parsed(t, "\uFF11.\uFF21", true, domain("1.a"), api.OK)
	parsed(t, "1.\u00FC", true, domain("1.xn--tda"), api.OK)
	parsed(t, "1.2\u4E00", true, domain("1.xn--2-0n6a"), api.OK)
	parsed(t, "1.\u06F1a", true, domain("1."+mustASCII(t, "\u06F1a")), api.OK) // an Arabic digit is none of ASCII's
}

// mustASCII is a label that layer 7 takes.
func mustASCII(t *testing.T, s string) string {
	t.Helper()
	name, e := idna.ASCII(s, false, false)
	if e != api.OK {
		t.Fatalf("%q: %v", s, e)
	}
	return name
}

func TestP12_1Dots(t *testing.T) {
	for _, s := range []string{".", "..", "...", "a.", ".a", "a..", "..a", "a..b", ".a.", "-.", "xn--tda..", "._"} {
		parsed(t, s, true, domain(s), api.OK)
		parsed(t, strings.ReplaceAll(s, ".", "\u3002"), true, domain(s), api.OK)
		parsed(t, strings.ReplaceAll(s, ".", "%2E"), true, domain(s), api.OK)
		parsed(t, s, false, opaque(s), api.OK)
	}
}

func TestP12_1BecomesEmpty(t *testing.T) {
	refused(t, true, "\u00AD", "\u00AD\u00AD", "%C2%AD", "%c2%ad\u00AD", "\xC2%AD", strings.Repeat("\u00AD", 2048))
	parsed(t, "\u00AD.", true, domain("."), api.OK)
	parsed(t, "\u00AD.\u00AD", true, domain("."), api.OK)
	parsed(t, "\u00ADa\u00AD", true, domain("a"), api.OK)
	parsed(t, "\u00AD", false, opaque("%C2%AD"), api.OK)
}

func TestP12_1NotWellFormed(t *testing.T) {
	for _, bad := range []string{"\xff", "\x80", "\xc3", "\xa9", "\xe2\x82", "\xed\xa0\x80", "\xc0\x80", "\xf0\x9f\x98", "\xf4\x90\x80\x80", "\xf8\x88\x80\x80\x80"} {
		for _, s := range []string{bad, "a" + bad, bad + ".b", "a." + bad + ".b", "\u00FC" + bad, "1.2.3." + bad} {
			refused(t, true, s, byPercent(s), strings.ReplaceAll(s, bad, byPercent(bad)))
			parsed(t, s, false, opaque(pct.Encode(utf.Clean(s), api.SetControl)), api.OK)
		}
	}
}

func TestP12_1NotAsASCII(t *testing.T) {
	refused(t, true,
		"\u0305", "\u0080", "\u200E", "\U0010FFFF", "\uFFFD", "a!", "a\"b", "a$b", "(", "a*", "+", "a,b", "a;b", "a=b", "`", "{}", "~", "'", "&",
		"\u0301", "a.\u0308b", "\u093F", "a\u200D", "\u200C", "\u05D0a", "a\u05D0", "1a.\u05D0", "\u0660",
		"xn--", "xn--.a", "a.xn--", "xn--\u00FC", "xn--td", "xn--99999999", "xn--abc-", "XN--ABC-", "xn----", "xn--a", "xn--a\u00AD",
		strings.Repeat("\u00FC", 64), "a."+strings.Repeat("\u00FC", 64),
	)
}

// Neither hyphens nor lengths are asked.
func TestP12_1HyphensAndLengths(t *testing.T) {
	a := func(n int) string { return strings.Repeat("a", n) }
	for _, s := range []string{"-", "-a", "a-", "ab--c", "a.-", "-.-", a(63), a(64), a(65) + ".b", "b." + a(1000), strings.Repeat("a.", 126) + "a", strings.Repeat("a.", 126) + "aa", strings.Repeat("a.", 127), strings.Repeat("a.", 1000), "..."} {
		parsed(t, s, true, domain(s), api.OK)
	}
	parsed(t, "-\u00FC", true, domain(mustASCII(t, "-\u00FC")), api.OK)
	parsed(t, "ab--\u00FC", true, domain(mustASCII(t, "ab--\u00FC")), api.OK)
}

func TestP12_1Several(t *testing.T) {
	for _, s := range []string{"[ ", "[::1]\xff", "a b.256", "%zz.1", " %00\xff", "xn--abc-.256", "\u0301 1", "[%", "\x00\xff[", "1.2.3.4.5 ", "#?/\\"} {
		refused(t, true, s)
		refused(t, true, s+strings.Repeat(" ", 4096-len(s)))
		parsed(t, s+strings.Repeat(" ", 4097-len(s)), true, api.Host{}, api.ErrLong)
		parsed(t, s+strings.Repeat(" ", 4097-len(s)), false, api.Host{}, api.ErrLong)
	}
	refused(t, false, "[ ", "[::1]\xff", "\x00\xff[", "\xff ", "\x01#", "%zz ", "\u00E9:")
}

func TestP12_2Text(t *testing.T) {
	text(t, domain("example.com"), "example.com")
	text(t, domain("a."), "a.")
	text(t, opaque("A%41%C3%A9"), "A%41%C3%A9")
	text(t, fourOf(0x7F000001), "127.0.0.1")
	text(t, fourOf(0), "0.0.0.0")
	text(t, fourOf(0xFFFFFFFF), "255.255.255.255")
	text(t, sixOf(), "[::]")
	text(t, sixOf(0, 0, 0, 0, 0, 0, 0, 1), "[::1]")
	text(t, sixOf(1, 0, 0, 2, 0, 0, 0, 3), "[1:0:0:2::3]")
	text(t, sixOf(0, 0, 0, 0, 0, 0xFFFF, 0x102, 0x304), "[::ffff:102:304]")
	text(t, api.Host{}, "")
	// any host at all is told, also one that may not be
	text(t, domain(""), "")
	text(t, opaque(""), "")
	text(t, domain("A b\xff"), "A b\xff")
	text(t, opaque("\x00\u00E9 "), "\x00\u00E9 ")
	text(t, domain("1.2.3.4"), "1.2.3.4")
	text(t, opaque("[::1]"), "[::1]")
	text(t, domain(strings.Repeat("a", 5000)), strings.Repeat("a", 5000))
}

// full is a host of that kind with something in every field.
func full(kind uint8) api.Host {
	return api.Host{Kind: kind, Name: "a.b", Four: 0x01020304, Six: [8]uint16{1, 2, 3, 4, 5, 6, 7, 8}}
}

func TestP12_2EachKind(t *testing.T) {
	for n := range 256 {
		kind := uint8(n)
		want := map[uint8]string{api.Domain: "a.b", api.Four: "1.2.3.4", api.Six: "[1:2:3:4:5:6:7:8]", api.Opaque: "a.b"}[kind]
		text(t, full(kind), want)
		may(t, false, full(kind))
		may(t, n == 0 || n == 2 || n == 3, api.Host{Kind: kind})
		may(t, n == 1 || n == 4, api.Host{Kind: kind, Name: "a.b"})
		may(t, n == 2, api.Host{Kind: kind, Four: 1})
		may(t, n == 3, api.Host{Kind: kind, Six: [8]uint16{1}})
	}
}

// Something in a field that its kind does not use.
func TestP12_2MayFields(t *testing.T) {
	good := []api.Host{{}, domain("a.b"), fourOf(0x01020304), fourOf(0), sixOf(1, 2), sixOf(), opaque("a.b")}
	may(t, true, good...)
	for _, h := range good {
		if h.Kind != api.Domain && h.Kind != api.Opaque {
			other := h
			other.Name = "a"
			may(t, false, other)
			other.Name = Text(h) + " "
			may(t, false, other)
			if h.Kind != 0 {
				other.Name = Text(h)
				may(t, false, other)
			}
			text(t, other, Text(h))
		}
		if h.Kind != api.Four {
			for _, a := range []uint32{1, 1 << 8, 1 << 31} {
				other := h
				other.Four = a
				may(t, false, other)
				text(t, other, Text(h))
			}
		}
		if h.Kind != api.Six {
			for i := range 8 {
				other := h
				other.Six[i] = 1
				may(t, false, other)
				text(t, other, Text(h))
			}
		}
	}
}

func TestP12_2MayDomains(t *testing.T) {
	for _, name := range []string{"a", "a.b", "a.", ".", "a..b", "-", "_", "xn--tda", "xn--bcher-kva.de.", "1.a", "1..", "0xg", strings.Repeat("a", 64), strings.Repeat("a", 4096), strings.Repeat("a.", 2048)} {
		may(t, true, domain(name))
	}
	for _, name := range []string{
		"", "1", "1.2", "1.2.3.4", "1.2.3.4.", "0x", "0x7f.1", "a.1", "a.256.", "256", "[::1]", "[", "]", "::1",
		"A", "a.B", "EXAMPLE.com", "XN--TDA", "xn--TDA", "\u00FC", "b\u00FCcher.de", "\uFF41", "a\u3002b", "a\u00AD", "\u00AD", "%41", "%61", "a%2eb", "%", "a b", "a/b", "a:80", "a@b", "a\x00", "\x7f", "a\xff", "xn--", "xn--a", "xn--abc-", "xn--\u00FC",
		strings.Repeat("a", 4097), strings.Repeat("a.", 2049), strings.Repeat("a", 1<<20), strings.Repeat("xn--tda.", 1365),
	} {
		may(t, false, domain(name))
	}
}

func TestP12_2MayOpaques(t *testing.T) {
	for _, name := range []string{"a", "A", "A%41%C3%A9", "%", "%zz", "%00", "1.2.3.4", "a.256", ".", "xn--a", "!\"$&'()*+,-.;=_`{}~", strings.Repeat("a", 4096), strings.Repeat("%", 4096)} {
		may(t, true, opaque(name))
	}
	for _, name := range []string{"", "[::1]", "[", "[]", "\u00E9", "a\u00E9", "\u00AD", "\x80", "\xff", "a\xc3", "\x01", "a\x1f", "\x7f", strings.Repeat("a", 4097), strings.Repeat("%01", 1366), strings.Repeat("a", 1<<20)} {
		may(t, false, opaque(name))
	}
	for n := range 256 {
		one := string([]byte{byte(n)})
		well := !isForbidden[n] && n >= 0x20 && n < 0x7F
		may(t, well, opaque(one), opaque("a"+one), opaque(one+"b"), opaque("a"+one+"b"))
		if isForbidden[n] || n >= 0x80 {
			may(t, false, domain(one), domain("a"+one), domain("a"+one+"b"))
		}
	}
}

func TestP12_2MayAddresses(t *testing.T) {
	pick := rand.New(rand.NewPCG(2, 12))
	may(t, true, fourOf(0), fourOf(0xFFFFFFFF), sixOf(), sixOf(0xFFFF, 0xFFFF, 0xFFFF, 0xFFFF, 0xFFFF, 0xFFFF, 0xFFFF, 0xFFFF))
	for range 2000 {
		told(t, fourOf(pick.Uint32()>>pick.IntN(32)))
		may(t, true, fourOf(pick.Uint32()))
		h := sixOf()
		for i := range h.Six {
			h.Six[i] = uint16(pick.Uint32()) >> pick.IntN(17)
		}
		told(t, h)
		may(t, true, h)
	}
}

// A host that may be is parsed from its text: of an Opaque one where it is not special, of a Six either way, of the others where it is.
func TestP12_3ThereAndBack(t *testing.T) {
	for _, name := range []string{"a", "example.com.", ".", "xn--tda", "1.a", "0xg", strings.Repeat("a", 4096)} {
		parsed(t, Text(domain(name)), true, domain(name), api.OK)
	}
	for _, name := range []string{"a", "A%41", "%", "127.0.0.1", strings.Repeat("a", 4096)} {
		parsed(t, Text(opaque(name)), false, opaque(name), api.OK)
	}
	pick := rand.New(rand.NewPCG(3, 12))
	for range 5000 {
		h := fourOf(pick.Uint32() >> pick.IntN(32))
		parsed(t, Text(h), true, h, api.OK)
		h = sixOf()
		for i := range h.Six {
			h.Six[i] = uint16(pick.Uint32()) >> pick.IntN(17)
		}
		parsed(t, Text(h), true, h, api.OK)
		parsed(t, Text(h), false, h, api.OK)
	}
	parsed(t, Text(api.Host{}), false, api.Host{}, api.OK)
}

// What Parse answers may be, unless its text has become too long.
func TestP12_3WhatIsParsedMayBe(t *testing.T) {
	for seed := range uint64(20000) {
		s := picked(seed, int(seed%9), bits)
		for _, special := range []bool{true, false} {
			h, e := Parse(s, special)
			may(t, true, h)
			if e == api.OK {
				parsed(t, Text(h), special, h, api.OK)
			}
		}
	}
	for _, c := range []struct {
		s       string
		special bool
	}{{strings.Repeat("\u00FC.", 1365), true}, {strings.Repeat("\x01", 4096), false}, {strings.Repeat("\u00FC", 2048), false}} {
		h, e := Parse(c.s, c.special)
		if e != api.OK || len(Text(h)) <= 4096 {
			t.Errorf("%.20q: %v, %d bytes", c.s, e, len(Text(h)))
		}
		may(t, false, h)
		parsed(t, Text(h), c.special, api.Host{}, api.ErrLong)
	}
}

func TestP12_3OneHost(t *testing.T) {
	for _, c := range []struct {
		want  api.Host
		alike []string
	}{
		{domain("xn--bcher-kva.example."), []string{
			"b\u00FCcher.example.", "B\u00DCCHER.EXAMPLE\u3002", "bu\u0308cher.example.", "BU\u0308CHER\uFF0Eexample\uFF61", "\uFF42\uFF55\u0308\uFF43\uFF48\uFF45\uFF52.\uFF25xample.",
			"b\u00FCch\u00ADer.ex\u00ADample.\u00AD", "xn--bcher-kva.example.", "XN--BCHER-KVA.Example.", "\uFF38\uFF2E\uFF0D\uFF0Dbcher-kva.example.", "B\uFF35\u00AD\u0308CHER.example.", "b%C3%BCcher.example%2e", "%62u%cc%88cher.example.",
		}},
		{domain("xn--1ig"), []string{"\u1E69", "\u1E68", "s\u0323\u0307", "s\u0307\u0323", "S\u0307\u0323", "\u1E63\u0307", "\u1E61\u0323", "\uFF33\u0323\u0307", "%73%CC%A3\u0307"}},
		{fourOf(0x7F000001), []string{"127.0.0.1", "127.1", "0x7F.1", "0177.0.0.1.", "\uFF11\uFF12\uFF17.\uFF10.\uFF10.\uFF11", "127\u3002\u00B9", "%31\uFF12%37.1", "2130706433", "0\uFF58\u00AD7\uFF26.1"}},
		{sixOf(0, 0, 0, 0, 0, 0xFFFF, 0x102, 0x304), []string{"[::ffff:1.2.3.4]", "[::FFFF:102:304]", "[0:0:0:0:0:ffff:0102:0304]", "[0::FfFf:1.2.3.4]"}},
	} {
		seen := map[api.Host]int{}
		for _, s := range c.alike {
			h, e := Parse(s, true)
			if h != c.want || e != api.OK {
				t.Errorf("Parse(%q, true): %s, %v, not %s", s, shown(h), e, shown(c.want))
			}
			seen[h]++
		}
		if len(seen) != 1 {
			t.Errorf("one host is %d", len(seen))
		}
	}
}

// alike holds Parse of s, decoded, to be Parse of what that is mapped to. (What is mapped to a bracket at the front, or to a percent sign, is no more than that sign; what stands there as itself is read.)
func alike(t *testing.T, s string) {
	t.Helper()
	plain := pct.Decode(s)
	other, _ := utf.Encode(idna.Map(plain))
	if strings.HasPrefix(plain, "[") || strings.HasPrefix(other, "[") || strings.Contains(other, "%") || strings.HasPrefix(s, "[") || len(other) > 4096 {
		return
	}
	h, e := Parse(s, true)
	again, e2 := Parse(other, true)
	if again != h || e2 != e {
		t.Errorf("Parse(%q, true): %s, %v, mapped: %s, %v", s, shown(h), e, shown(again), e2)
	}
}

func TestP12_3MappedAlike(t *testing.T) {
	texts(2, bits, func(s string) { alike(t, s) })
	letters := []string{"a", "B", "\uFF23", ".", "\u3002", "%2e", "1", "\uFF12", "\u00DC", "u\u0308", "%C3%BC", "\u00AD", "xn--tda", "\u1E9E", "s\u0307", "\u0323", "%41"}
	for seed := range uint64(10000) {
		alike(t, picked(seed, int(seed%14), letters))
	}
}

func TestP12_3ByTheWords(t *testing.T) {
	texts(2, bits, func(s string) { byWords(t, s) })
	texts(4, fewBits, func(s string) { byWords(t, s) })
	for seed := range uint64(10000) {
		byWords(t, picked(seed, int(seed%8)+3, bits))
		byWords(t, picked(seed, int(seed%16), fewBits))
		byWords(t, "["+picked(seed, int(seed%12), []string{"::", ":", "1", "f", "1.2.3.4", "1:2:3:4:5:6:", "%", "]"})+"]")
	}
}

// Text and May of hosts that nobody parsed.
func TestP12_3AnyHostByTheWords(t *testing.T) {
	pick := rand.New(rand.NewPCG(4, 12))
	for seed := range uint64(30000) {
		h := api.Host{Kind: uint8(pick.IntN(6))}
		if pick.IntN(3) > 0 {
			h.Name = picked(seed, int(seed%5), bits)
		}
		if pick.IntN(3) == 0 {
			h.Four = pick.Uint32()
		}
		if pick.IntN(3) == 0 {
			h.Six[pick.IntN(8)] = uint16(pick.Uint32())
		}
		told(t, h)
	}
}

// What was answered once stays as it is, whatever is asked later; what was handed in stays, too.
func TestP12_3AnswersStay(t *testing.T) {
	given := []string{"EXAMPLE.com", "b\u00FCcher", "0x7f.1", "[::1]"}
	want := []api.Host{domain("example.com"), domain("xn--bcher-kva"), fourOf(0x7F000001), sixOf(0, 0, 0, 0, 0, 0, 0, 1), opaque("A%41%C3%A9")}
	wantTexts := []string{"example.com", "xn--bcher-kva", "127.0.0.1", "[::1]", "A%41%C3%A9"}
	var held []api.Host
	var heldTexts []string
	for _, s := range given {
		h, _ := Parse(s, true)
		held = append(held, h)
	}
	h, _ := Parse("A%41\u00E9", false)
	held = append(held, h)
	for _, h := range held {
		heldTexts = append(heldTexts, Text(h))
	}
	for seed := range uint64(2000) {
		for _, special := range []bool{true, false} {
			later, _ := Parse(picked(seed, 5, bits), special)
			May(later)
			later.Name, later.Four, later.Six[7] = "bad", 0xBAD, 0xBAD // a copy of one's own
			Text(later)
		}
		Parse("OTHER.net", true)
		Parse("[9::9]", true)
	}
	for i := range want {
		if held[i] != want[i] || heldTexts[i] != wantTexts[i] {
			t.Errorf("%s, %q became %s, %q", shown(want[i]), wantTexts[i], shown(held[i]), heldTexts[i])
		}
	}
	for i, s := range given {
		parsed(t, s, true, want[i], api.OK)
	}
}

// An answer is memory of its own, even where it is the same text.
func TestP12_3AnswersAreNew(t *testing.T) {
	for _, s := range []string{"plain", "plain.name", "xn--tda", "1.a"} {
		s = strings.Clone(s)
		for _, special := range []bool{true, false} {
			h, _ := Parse(s, special)
			if h.Name != s || unsafe.StringData(h.Name) == unsafe.StringData(s) {
				t.Errorf("Parse(%q, %v): %q, or the argument's own memory", s, special, h.Name)
			}
			if unsafe.StringData(Text(h)) == unsafe.StringData(h.Name) {
				t.Errorf("Text(%s): the argument's own memory", shown(h))
			}
		}
	}
	for _, h := range []api.Host{fourOf(0x7F000001), sixOf(), sixOf(1, 2)} {
		if unsafe.StringData(Text(h)) == unsafe.StringData(Text(h)) {
			t.Errorf("Text(%s): twice the same memory", shown(h))
		}
	}
}

// The text between brackets is layer 11's, whatever the address.
func TestP12_3SixAsLayer11(t *testing.T) {
	for pattern := range 256 {
		h := sixOf()
		for i := range 8 {
			h.Six[i] = 0xAB * uint16(pattern>>i&1)
		}
		text(t, h, "["+six.Text(h.Six)+"]")
		parsed(t, "["+six.Text(h.Six)+"]", true, h, api.OK)
		parsed(t, strings.ToUpper("["+six.Text(h.Six)+"]"), false, h, api.OK)
	}
}
