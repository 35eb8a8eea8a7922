package canon

import (
	"fmt"
	"math/rand/v2"
	"strings"
	"testing"

	"portcullis/api"
	"portcullis/host"
	"portcullis/url"
)

// bits is some of all kinds: schemes, what divides an authority, hosts of every kind, dots in each spelling, ports, what is decoded, mapped, ignored and disallowed, blanks, bytes that are not well-formed.
var bits = []string{
	"http://", "https://", "HTTP:", "ws://", "ftp://", "foo://", "foo:", "a", "B", "-", "_", "1", "0", "08", "255", "256", "80", "443", "65535", "65536", "00080", ":", ":80", ":0", ":00443", ":65535", ":65536", ":a", "::", "@", "u@", "u:p@", ":@",
	"example.com", "EXAMPLE.COM.", "127.1", "0x7f", "1.2.3.4", "[::1]", "[", "]", "[1:2:3:4:5:6:7:8]", "[::ffff:1.2.3.4]", ".", "..", "\u3002", "\uFF0E", "%2e", "%41", "%3A", "%40", "%", "%zz", "%20", "/", "?", "#", `\`,
	" ", "\t", "\n", "\x00", "\x1f", "\x7f", "\u00E9", "\u00DC", "u\u0308", "\u00AD", "\uFF21", "\uFF11", "\uFF1A", "\uFF20", "\u00A0", "\u05D0", "\U0001F600", "xn--tda", "\uFFFD", "\xff", "\xc3", "\xe2\x82",
}

// fewBits is the same, for longer texts: what divides.
var fewBits = []string{"[", "]", ":", "::1", ".", "a", "1", "80", "@", "/", "%2e", "\u3002"}

func TestP14_1Examples(t *testing.T) {
	for name, want := range map[string]string{
		"a":                    "a",
		"a.":                   "a",
		"example.com":          "example.com",
		"example.com.":         "example.com",
		"www.a-b_c.d9":         "www.a-b_c.d9",
		"www.a-b_c.d9.":        "www.a-b_c.d9",
		"xn--bcher-kva.de":     "xn--bcher-kva.de",
		"xn--bcher-kva.de.":    "xn--bcher-kva.de",
		"xn--4db.":             "xn--4db", // of letters that go right: the empty label behind it is none that does not
		"-.":                   "-",
		"_":                    "_",
		"1.a":                  "1.a",
		"256.256.256.256.256a": "256.256.256.256.256a",
		"0xg.":                 "0xg",
		"xn--e28h.":            "xn--e28h",
	} {
		canonical(t, named(name), named(want), api.OK)
	}
}

func TestP14_1Addresses(t *testing.T) {
	for _, h := range []api.Host{
		fourOf(0), fourOf(1), fourOf(0x7F000001), fourOf(0xFFFFFFFF), fourOf(0x01020304),
		sixOf(), sixOf(0, 0, 0, 0, 0, 0, 0, 1), sixOf(1), sixOf(1, 2, 3, 4, 5, 6, 7, 8), sixOf(0, 0, 0, 0, 0, 0xFFFF, 0x102, 0x304), sixOf(0xFFFF, 0xFFFF, 0xFFFF, 0xFFFF, 0xFFFF, 0xFFFF, 0xFFFF, 0xFFFF),
	} {
		canonical(t, h, h, api.OK)
	}
}

func TestP14_1NoneAndOpaque(t *testing.T) {
	noHost(t, api.Host{}, opaque("a"), opaque("a."), opaque("example.com"), opaque("127.0.0.1"), opaque("EXAMPLE"), opaque("%41"), opaque("."), opaque(long("a", 4096)))
	for _, h := range []api.Host{{}, opaque("a"), opaque("example.com"), opaque("127.0.0.1")} {
		if !host.May(h) {
			t.Errorf("%s may not be: it does not hold Host to its kind", shownHost(h))
		}
	}
}

func TestP14_1MayNotBe(t *testing.T) {
	noHost(t,
		named(""), named("A"), named("a.B"), named("EXAMPLE.com"), named("a b"), named(" a"), named("a\x00"), named("a/b"), named("a:80"), named("a@b"), named("[::1]"), named("%61"), named("a%2e"), named("\uFF41"), named("b\u00FCcher"), named("u\u0308"), named("a\u3002"), named("a\u00AD"), named("\xff"), named("a\xc3"),
		named("xn--a"), named("xn--"), named("xn--abc-"), named("XN--tda"), named("xn--4db.1a"),
		named("1"), named("127.0.0.1"), named("127.0.0.1."), named("1."), named("a.1"), named("a.1."), named("0x7f"), named("a.0x."), named("256.1"),
		api.Host{Kind: api.Domain, Name: "a", Four: 1}, api.Host{Kind: api.Domain, Name: "a", Six: [8]uint16{7: 1}}, api.Host{Kind: api.Domain, Name: "a.", Four: 1}, api.Host{Kind: api.Domain, Four: 1},
		api.Host{Kind: api.Four, Name: "a", Four: 1}, api.Host{Kind: api.Four, Name: "1.2.3.4", Four: 0x01020304}, api.Host{Kind: api.Four, Four: 1, Six: [8]uint16{1}},
		api.Host{Kind: api.Six, Name: "a"}, api.Host{Kind: api.Six, Four: 1}, api.Host{Kind: api.Six, Name: "[::]"}, api.Host{Kind: api.Six, Name: "::"},
		api.Host{Name: "a"}, api.Host{Four: 1}, api.Host{Six: [8]uint16{1}}, api.Host{Kind: api.Opaque}, api.Host{Kind: api.Opaque, Name: "a", Four: 1}, opaque("a b"), opaque("\u00E9"), opaque(long("a", 4097)),
		named(long("a.", 4096)), named(long("a.", 4097)), named(long("a", 1<<20)), named(long("a.", 1<<20)),
	)
	for kind := 5; kind < 256; kind++ {
		noHost(t, api.Host{Kind: uint8(kind)}, api.Host{Kind: uint8(kind), Name: "a"}, api.Host{Kind: uint8(kind), Four: 1}, api.Host{Kind: uint8(kind), Six: [8]uint16{1}})
	}
}

func TestP14_1Dots(t *testing.T) {
	canonical(t, named("a"), named("a"), api.OK)
	canonical(t, named("a."), named("a"), api.OK)
	canonical(t, named("a.b.c."), named("a.b.c"), api.OK)
	noHost(t, named("a.."), named("a..."), named("a.b.."), named("."), named(".."), named("..."), named("1.."), named("1.2.3.4.."), named("a.1.."), named("0x.."))
	noHost(t, named(".a"), named(".a."), named("..a"), named("a..b"), named("a..b."), named("a...b"), named("a.b..c"), named(".a.b"), named(".xn--tda"))
	for _, s := range []string{"a..", ".", "..", "1..", ".a", ".a.", "a..b", "a..b."} {
		if !host.May(named(s)) {
			t.Errorf("%q may not be: it does not hold Host to its labels", s)
		}
	}
}

func TestP14_1Lengths(t *testing.T) {
	for n := 200; n <= 253; n++ {
		canonical(t, named(nameOf(n)), named(nameOf(n)), api.OK)
		canonical(t, named(nameOf(n)+"."), named(nameOf(n)), api.OK)
		noHost(t, named(nameOf(n)+".."))
	}
	for n := 254; n <= 255; n++ {
		noHost(t, named(nameOf(n)), named(nameOf(n)+"."))
	}
	// Short labels: what counts is all bytes of the name, but the last dot.
	short := long("a.", 253)
	canonical(t, named(short), named(short), api.OK)
	canonical(t, named(short+"."), named(short), api.OK)
	noHost(t, named("b"+short), named("b"+short+"."), named(short+"b"), named(short+".b"), named(short+"b."), named(short+".."))
	for _, around := range []struct{ front, back string }{{"", ""}, {"b.", ""}, {"", ".c"}, {"b.", ".c"}, {"b.c.", ".d.e"}} {
		for n := 1; n <= 63; n++ {
			name := around.front + long("a", n) + around.back
			canonical(t, named(name), named(name), api.OK)
			canonical(t, named(name+"."), named(name), api.OK)
		}
		for _, n := range []int{64, 65, 100, 253, 254, 4000} {
			name := around.front + long("a", n) + around.back
			noHost(t, named(name), named(name+"."))
		}
	}
}

func TestP14_1ByTheWords(t *testing.T) {
	few := []string{"a", ".", "1", "-", long("b", 62), "xn--tda", "C"}
	texts(4, few, func(s string) {
		hostByWords(t, named(s))
		hostByWords(t, opaque(s))
	})
	for seed := range uint64(3000) {
		h, _ := host.Parse(picked(seed, int(seed%6)+1, bits), seed%4 > 0)
		hostByWords(t, h)
		hostByWords(t, named(picked(seed, int(seed%12), few)))
	}
	for seed := range uint64(20000) {
		hostByWords(t, anyHost(seed))
	}
}

// anyHost is one that nobody read: its kind, and its fields, are picked.
func anyHost(seed uint64) api.Host {
	pick := rand.New(rand.NewPCG(seed, 141))
	h := api.Host{Kind: uint8(pick.IntN(6))}
	if pick.IntN(2) == 0 {
		h.Name = picked(seed, pick.IntN(4), []string{"a", "b.c", ".", "1", "xn--tda", "D", "\u00FC", "%61", "[::1]", ":", "\xff"})
	}
	if pick.IntN(3) == 0 {
		h.Four = pick.Uint32()
	}
	if pick.IntN(3) == 0 {
		h.Six[pick.IntN(8)] = uint16(pick.Uint32())
	}
	return h
}

func TestP14_2Examples(t *testing.T) {
	absolute(t, "http://EXAMPLE.com./x", at(named("example.com"), 80), api.OK)
	absolute(t, "https://0x7f.1", at(fourOf(0x7F000001), 443), api.OK)
	absolute(t, "http://a:8080", at(named("a"), 8080), api.OK)
	noAbsolute(t, api.ErrProtocol, "ftp://a")
	noAbsolute(t, api.ErrUser, "http://u@a")
	noAbsolute(t, api.ErrHost, "http://a..b")
	noAbsolute(t, api.ErrPort, "http://a:0")
}

// The document's own examples, as far as they tell a target.
func TestP14_2ExamplesOfTheWhole(t *testing.T) {
	absolute(t, "http://EXAMPLE.com./", at(named("example.com"), 80), api.OK)
	absolute(t, "http://www.%65xample.com:8080/", at(named("www.example.com"), 8080), api.OK)
	absolute(t, "http://0x7f.1/", at(fourOf(0x7F000001), 80), api.OK)
}

func TestP14_2HostsAndRest(t *testing.T) {
	for s, want := range map[string]api.Host{
		"a":                 named("a"),
		"Example.COM":       named("example.com"),
		"example.com.":      named("example.com"),
		"b\u00FCcher.de":    named("xn--bcher-kva.de"),
		"127.0.0.1":         fourOf(0x7F000001),
		"2130706433":        fourOf(0x7F000001),
		"0":                 fourOf(0),
		"[::1]":             sixOf(0, 0, 0, 0, 0, 0, 0, 1),
		"[1:2:3:4:5:6:7:8]": sixOf(1, 2, 3, 4, 5, 6, 7, 8),
	} {
		for _, rest := range []string{"", "/", "/x", "/x/../y?q#f", "?q", "?q=http://b:1/", "#f", "/@b", "?u@b:9", "#:9", `\x`, "/x:9", "/ x y"} {
			absolute(t, "http://"+s+rest, at(want, 80), api.OK)
			absolute(t, "https://"+s+rest, at(want, 443), api.OK)
			absolute(t, "http://"+s+":8080"+rest, at(want, 8080), api.OK)
			absolute(t, "https://"+s+":8080"+rest, at(want, 8080), api.OK)
		}
	}
}

func TestP14_2Schemes(t *testing.T) {
	for s, port := range map[string]uint16{"http:": 80, "HTTP:": 80, "hTtP:": 80, "https:": 443, "HTTPS:": 443, " http:": 80, "\x00\thttps:": 443, "ht\ntp:": 80} {
		for _, slashes := range []string{"//", "", "/", "///", `\\`, `/\`} {
			absolute(t, s+slashes+"a", at(named("a"), port), api.OK)
			absolute(t, s+slashes+"[::1]", at(sixOf(0, 0, 0, 0, 0, 0, 0, 1), port), api.OK)
		}
	}
	noAbsolute(t, api.ErrProtocol,
		"ws://a", "wss://a", "ftp://a", "WS://a", "wss://a:443", "ftp://a:21/x", "foo://a", "foo:a", "foo:/a", "foo:", "httpx://a", "httpss://a", "h://a", "gopher://a:70", "mailto:a@b", "about:blank", "javascript:0", "ws+http://a", "view-source:http://a",
		"file:///x", "file://a/x", "FILE:a", "", "a", "a.b", "//a", "/a", "://a", ":", "1http://a", "a b://c", "%68ttp://a", "\uFF48ttp://a", "http", "http//a", "\xff", "http\xff://a", "*",
		"example.com", "[::1]:80",
	)
	// A host and a port are read as a scheme and an opaque path.
	noAbsolute(t, api.ErrProtocol, "example.com:443", "localhost:80", "a:8080")
}

func TestP14_2Users(t *testing.T) {
	for _, scheme := range []string{"http://", "https://", "HTTP:"} {
		noAbsolute(t, api.ErrUser, scheme+"u@a", scheme+"u:@a", scheme+":p@a", scheme+"u:p@a", scheme+"u@a:80/x", scheme+"u:p@[::1]", scheme+"u@1.2.3.4", scheme+"@@a", scheme+"a@b@c", scheme+"::@a", scheme+" @a", scheme+"%20@a", scheme+"\xff@a", scheme+"example.com:80@a", scheme+"u%40v@a")
	}
	for _, none := range []string{"@", ":@"} {
		absolute(t, "http://"+none+"a", at(named("a"), 80), api.OK)
		absolute(t, "https://"+none+"a.:1/x", at(named("a"), 1), api.OK)
		absolute(t, "http://"+none+"[::1]:5", at(sixOf(0, 0, 0, 0, 0, 0, 0, 1), 5), api.OK)
	}
}

func TestP14_2Ports(t *testing.T) {
	for s, want := range map[string]uint16{":": 0, ":80": 80, ":443": 443, ":1": 1, ":65535": 65535, ":00080": 80, ":0000000000443": 443, ":8080": 8080, ":0065535": 65535, ":21": 21} {
		for scheme, own := range schemePorts {
			port := want
			if port == 0 {
				port = own
			}
			for _, rest := range []string{"", "/", "/x:1", "?a", "#a"} {
				absolute(t, scheme+"://a"+s+rest, at(named("a"), port), api.OK)
				absolute(t, scheme+"://1.2.3.4"+s+rest, at(fourOf(0x01020304), port), api.OK)
				absolute(t, scheme+"://[1::]"+s+rest, at(sixOf(1), port), api.OK)
			}
		}
	}
	for scheme := range schemePorts {
		for _, port := range []string{"0", "00", "000000", "65536", "99999", "100000", "18446744073709551696", "a", "-1", "+80", "8o", "80a", "0x50", "8_0", "\uFF18\uFF10", "%38", "8 0", "80:", "80:80", ":"} {
			noAbsolute(t, api.ErrPort, scheme+"://a:"+port, scheme+"://[::1]:"+port+"/x", scheme+"://a.:"+port+"?y")
		}
	}
}

func TestP14_2Hosts(t *testing.T) {
	for _, scheme := range []string{"http://", "https://"} {
		noAbsolute(t, api.ErrHost,
			scheme, scheme+"/", scheme+"?a", scheme+"#a", scheme+":80", scheme+":", scheme+"@", scheme+"u@", scheme+"u:p@/x",
			scheme+"a..b", scheme+"a..", scheme+".", scheme+"..", scheme+".a", scheme+"a..:80", scheme+"1..", scheme+"a%2e%2eb", scheme+"a\u3002.b", scheme+"a.\uFF0E",
			scheme+"a b", scheme+"a%20b", scheme+"a%", scheme+"a.256", scheme+"1.2.3.4.5", scheme+"[::1", scheme+"[1]", scheme+"[::1]a", scheme+"a]", scheme+"a%40b", scheme+"a%3A80", scheme+"xn--a", scheme+"\xff", scheme+"\u00AD", scheme+"a\uFF0Fb",
			scheme+long("a", 64), scheme+"b."+long("a", 64)+".c.", scheme+nameOf(254), scheme+nameOf(254)+".", scheme+long("\u00FC", 200),
		)
		absolute(t, scheme+nameOf(253)+".:7/x", at(named(nameOf(253)), 7), api.OK)
		absolute(t, scheme+nameOf(253)+":7/x", at(named(nameOf(253)), 7), api.OK)
		absolute(t, scheme+long("a", 63)+":7", at(named(long("a", 63)), 7), api.OK)
		absolute(t, scheme+byPercent(nameOf(253))+":7", at(named(nameOf(253)), 7), api.OK)
	}
	// A name that is longer as ASCII than a URL may be.
	grown := strings.Repeat("\u00FC.", 1360)
	if h, e := host.Parse(grown, true); e != api.OK || host.May(h) {
		t.Error("the host may be: it does not hold Absolute to that")
	}
	noAbsolute(t, api.ErrHost, "http://"+grown, "https://"+grown+":80")
}

func TestP14_2Long(t *testing.T) {
	const front = "http://a:8080/"
	absolute(t, front+long("x", 4096-len(front)), at(named("a"), 8080), api.OK)
	noAbsolute(t, api.ErrLong, front+long("x", 4097-len(front)), front+long("x", 1<<20), long(" ", 4097), long("ftp://u@", 4097), long("\xff", 4097), "http://u@a..:0/"+long("x", 4096))
	noAbsolute(t, api.ErrProtocol, long("x", 4096), long(" ", 4096))
	// A text that is longer once it is made clean: the host's error.
	noAbsolute(t, api.ErrLong, "http://"+long("\xff", 4000))
}

// Of several errors the one that is named first is answered.
func TestP14_2Several(t *testing.T) {
	noAbsolute(t, api.ErrHost, "ftp://u@a b", "ws://u@", "foo://u@", "http://u@a b", "http://u:p@a.256:0", "http://u@[::1", "http://a b:x", "ftp://:0", "foo://u@a b:0")
	noAbsolute(t, api.ErrPort, "ftp://u@a..b:x", "http://u@a..b:65536", "https://u:p@a:99999", "ws://a:a", "foo://u@a:65536", "http://a..b:x")
	noAbsolute(t, api.ErrProtocol, "ftp://u@a..b:0", "wss://u:p@.", "ws://a:0", "foo://u:p@a..b:0", "foo:", "file://u@a..b:0")
	noAbsolute(t, api.ErrUser, "http://u@a..b:0", "https://:p@.", "http://u@a:0", "https://u:p@"+long("a", 64)+":0")
	noAbsolute(t, api.ErrHost, "http://a..b:0", "https://.:0", "http://"+nameOf(254)+":0", "http://@a..:0")
	noAbsolute(t, api.ErrPort, "http://a:0", "https://a.:00", "http://@a:0/x?y#z")
}

func TestP14_3Examples(t *testing.T) {
	authority(t, "a:443", 0, at(named("a"), 443), api.OK)
	authority(t, "a", 80, at(named("a"), 80), api.OK)
	noAuthority(t, api.ErrNone, 0, "a")
	authority(t, "[::1]:5", 0, at(sixOf(0, 0, 0, 0, 0, 0, 0, 1), 5), api.OK)
	noAuthority(t, api.ErrPort, 80, "a:")
}

func TestP14_3Hosts(t *testing.T) {
	for s, want := range map[string]api.Host{
		"a":                     named("a"),
		"EXAMPLE.com":           named("example.com"),
		"example.com.":          named("example.com"),
		"%45xample%2ecom":       named("example.com"),
		"ex\u00ADample\u3002OM": named("example.om"),
		"b\u00FCcher.DE.":       named("xn--bcher-kva.de"),
		"bu\u0308cher.de":       named("xn--bcher-kva.de"),
		"p\u0430ypal.com":       named("xn--pypal-4ve.com"),
		"-_-":                   named("-_-"),
		"127.0.0.1":             fourOf(0x7F000001),
		"0x7f.1":                fourOf(0x7F000001),
		"127.1.":                fourOf(0x7F000001),
		"\uFF11":                fourOf(1),
		"0":                     fourOf(0),
		"[::]":                  sixOf(),
		"[::1]":                 sixOf(0, 0, 0, 0, 0, 0, 0, 1),
		"[2001:DB8::Ff]":        sixOf(0x2001, 0xDB8, 0, 0, 0, 0, 0, 0xFF),
		"[::ffff:1.2.3.4]":      sixOf(0, 0, 0, 0, 0, 0xFFFF, 0x102, 0x304),
		"[1:2:3:4:5:6:7:8]":     sixOf(1, 2, 3, 4, 5, 6, 7, 8),
		nameOf(253):             named(nameOf(253)),
		nameOf(253) + ".":       named(nameOf(253)),
		long("a", 63) + ".b":    named(long("a", 63) + ".b"),
	} {
		for _, port := range []uint16{1, 80, 443, 8080, 65535} {
			authority(t, s, port, at(want, port), api.OK)
			authority(t, fmt.Sprintf("%s:%d", s, port), 0, at(want, port), api.OK)
			authority(t, fmt.Sprintf("%s:%d", s, port), 9, at(want, port), api.OK)
		}
		noAuthority(t, api.ErrNone, 0, s)
		noAuthority(t, api.ErrPort, 0, s+":", s+":0", s+":x")
		noAuthority(t, api.ErrPort, 80, s+":", s+":0", s+":x")
	}
}

func TestP14_3NoHosts(t *testing.T) {
	for _, s := range []string{
		"", ".", "..", "a..", "a..b", ".a", "a..b.", "1..", "a%2e.", "%", "a%", "%zz", "a%20b", "a%00", "a%7f", "a%40b", "a%3A80", "a/b", "a/", "/", "a?b", "a#b", `a\b`, "a<", "a>", "a^", "a|", "a!", "a\"", "a,b", "a*", "*", "a\uFF1A80", "a\uFF20b", "a\uFF0Fb",
		"a.256", "a.1", "08", "1.2.3.4.5", "4294967296", "xn--a", "xn--", "\u05D0a", "\u0308", "\xff", "a\xc3", "\xe2\x82", "\xed\xa0\x80", "\uFFFD", "\u00AD", "%C2%AD", "\u00A0", "a\u2028",
		"[", "]", "[]", "[::1", "::1]", "[1]", "[::1]a", "a[::1]", "[[::1]]", "[::1%eth0]", "[127.0.0.1]", "[example.com]", "[::1][::1]", "%5B::1%5D", "[::1].", "::", "::1", "1:2:3:4:5:6:7:8",
		long("a", 64), "b." + long("a", 64) + ".c", nameOf(254), nameOf(254) + ".", strings.Repeat("\u00FC.", 1360), long("a", 4000), long("a.", 4000), long("[", 4000),
	} {
		for _, end := range []string{"", ":", ":80", ":0", ":x", ":65536"} {
			noAuthority(t, api.ErrHost, 0, s+end)
			noAuthority(t, api.ErrHost, 80, s+end)
		}
	}
}

func TestP14_3Long(t *testing.T) {
	for _, port := range []uint16{0, 80} {
		for _, s := range []string{"a", "a.", " ", "@", ":", "[", "]", "1", "\xff", "%61", "a:80", "\u00FC"} {
			noAuthority(t, api.ErrLong, port, long(s, 4097), long(s, 4098), long(s, 1<<20))
		}
		noAuthority(t, api.ErrHost, port, long("a", 4096), long("a.", 4096), long(" ", 4096), long(" @", 4096), long(":", 4096), long("[", 4096), long("]", 4096))
		noAuthority(t, api.ErrUser, port, long("@", 4096), long("a@", 4096), "@"+long("a", 4095))
		noAuthority(t, api.ErrPort, port, "a:"+long("0", 4094), "a:"+long("1", 4094))
		// A text that long may be a host all the same: what is ignored counts here, and not there.
		authority(t, long("0", 4094)+":1", port, at(fourOf(0), 1), api.OK)
		ignored := strings.Repeat("\u00AD", 2046)
		authority(t, "a"+ignored+"b:1", port, at(named("ab"), 1), api.OK)
		noAuthority(t, api.ErrLong, port, "a"+ignored+"bc:1", "a"+ignored+"b.:1", "a"+ignored+"b:12", "a"+ignored+"b:1 ", "@a"+ignored+"b:1")
	}
	authority(t, "a"+strings.Repeat("\u00AD", 2047)+"b", 80, at(named("ab"), 80), api.OK)
	noAuthority(t, api.ErrNone, 0, "a"+strings.Repeat("\u00AD", 2047)+"b")
}

// Each byte up to 20 (hexadecimal), and 7F, wherever it stands, ahead of all but the length; all other bytes are the host's, or the port's.
func TestP14_3EachByte(t *testing.T) {
	for n := range 256 {
		sign := string([]byte{byte(n)})
		for _, s := range []string{sign, sign + "a:80", "a" + sign + "b:80", "a" + sign + ":80", "a:" + sign + "80", "a:8" + sign + "0", "a:80" + sign, "a" + sign, "u@a" + sign, sign + "u@a:80", "u" + sign + "@a:80", "[::1]" + sign, "[::1]:5" + sign, "[" + sign + "::1]", "[::1" + sign + "]:5", "a:x" + sign, "a..b:0" + sign} {
			if n <= 0x20 || n == 0x7F {
				noAuthority(t, api.ErrHost, 0, s)
				noAuthority(t, api.ErrHost, 80, s)
			}
			byWords(t, s)
			byWords(t, "http://"+s)
		}
	}
	// The least and the greatest that are not among them.
	noAuthority(t, api.ErrUser, 80, "!u@a", "~u@a", "\x80u@a")
	noAuthority(t, api.ErrPort, 80, "a:!", "a:~", "a:\x80", "a:80!", "a:80~", "a:80\x80", "a:\u0120", "a:\u0420")
}

func TestP14_3Users(t *testing.T) {
	for _, port := range []uint16{0, 80} {
		noAuthority(t, api.ErrUser, port, "@", "u@a", "u@a:1", "u:p@a:1", "@a", ":@a:1", "a@", "a:1@", "a:1@b", "a:@", "[::1]@", "[@::1]", "[::1]:@", "u@[::1]:5", "@@", "a@b@c:1", "a..b@", "a%@:0", "u@a..b:x", "\xff@", "@:0", "a]@[")
	}
	// Told by a percent sign, or wide, it is none.
	noAuthority(t, api.ErrHost, 80, "u%40a", "u%40a:1", "u\uFF20a:1")
	noAuthority(t, api.ErrPort, 80, "a:1%40", "a:\uFF20")
}

func TestP14_3Colons(t *testing.T) {
	one := sixOf(0, 0, 0, 0, 0, 0, 0, 1)
	for _, port := range []uint16{0, 80} {
		// It is cut at the last one: what is ahead has the others.
		noAuthority(t, api.ErrHost, port, ":", "::", ":80", "::80", ":::", "a:b:80", "a::80", "a::", ":a:80", "a:80:80", "1:2:3", "http://a:80", "::1:80", "[::1]:80:80", "[::1]::80", "[::1]::")
		noAuthority(t, api.ErrPort, port, "a:b", "1.2.3.4:x", "http://a", "http:a", "https:")
		authority(t, "1:2", port, at(fourOf(1), 2), api.OK)
		// Between brackets, it is none that divides; behind them it is.
		authority(t, "[::1]:80", port, at(one, 80), api.OK)
		authority(t, "[1:2:3:4:5:6:7:8]:9", port, at(sixOf(1, 2, 3, 4, 5, 6, 7, 8), 9), api.OK)
		noAuthority(t, api.ErrPort, port, "[::1]:", "[::1]:0", "[::1]:x", "[::1]:65536", "[::1]:[", "[::]:000080")
		// Ahead of a ], wherever that stands, it is none, and all is the host.
		noAuthority(t, api.ErrHost, port, "a:80]", "a:]", "a:80]b", ":]", "a:[80]", "[::1]:80]", "[::1]:]", "[::1]:[80]", "a:8]0", "[a:80]", "[]:80]", "]:]", "a:]80", "a:b:80]")
		// Brackets that are not shut are none that keep it.
		noAuthority(t, api.ErrHost, port, "[::1", "[::1:80", "[:80", "[", "[a:80", "::1]:80", "a]:80", "]:80", "[]:80", "[[::1]]:80", "[::1]a:80", "[::1]]:80")
	}
	authority(t, "[::1]", 80, at(one, 80), api.OK)
	authority(t, "[::1]", 65535, at(one, 65535), api.OK)
	noAuthority(t, api.ErrNone, 0, "[::1]", "[1:2:3:4:5:6:7:8]")
}

func TestP14_3Ports(t *testing.T) {
	for digits, want := range map[string]uint16{
		"1": 1, "9": 9, "80": 80, "443": 443, "8080": 8080, "10000": 10000, "65535": 65535, "65534": 65534,
		"01": 1, "00001": 1, "00080": 80, "080": 80, "08080": 8080, "00009": 9, "0443": 443,
	} {
		for _, port := range []uint16{0, 7, 65535} {
			authority(t, "a:"+digits, port, at(named("a"), want), api.OK)
			authority(t, "1.2.3.4:"+digits, port, at(fourOf(0x01020304), want), api.OK)
			authority(t, "[1::]:"+digits, port, at(sixOf(1), want), api.OK)
		}
	}
	for _, digits := range []string{
		"", "0", "00", "000", "0000", "00000", "000000", "000001", "000080", "065535", "0000080", "65536", "65537", "70000", "99999", "100000", "131152", "655350", "4294967376", "18446744073709551696",
		"a", "80a", "a80", "8a0", "-1", "-80", "+80", "+1", "0x50", "0X5", "0b1", "0o7", "8_0", "1e3", "8.0", "80.", ".80", "8,0", "80/", "80?", "80#x", "/80", "%38%30", "8%30", "\uFF18\uFF10", "\u0661", "80\u00AD", "\xff", "8\xff", "\uFFFD", "[80", "!", "''",
	} {
		for _, port := range []uint16{0, 7} {
			noAuthority(t, api.ErrPort, port, "a:"+digits, "a.:"+digits, "1.2.3.4:"+digits, "[1::]:"+digits)
		}
	}
	for n := range 100000 {
		want, e := at(named("a"), uint16(n)), api.OK
		if n < 1 || n > 65535 {
			want, e = api.Target{}, api.ErrPort
		}
		authority(t, fmt.Sprintf("a:%d", n), 0, want, e)
		authority(t, fmt.Sprintf("a:%05d", n), 1, want, e)
		noAuthority(t, api.ErrPort, 1, fmt.Sprintf("a:%06d", n))
	}
}

func TestP14_3NoColon(t *testing.T) {
	for n := range 65536 {
		port := uint16(n)
		want, e := at(named("a"), port), api.OK
		if n == 0 {
			want, e = api.Target{}, api.ErrNone
		}
		authority(t, "A.", port, want, e)
	}
}

// Of several errors the one that is named first is answered.
func TestP14_3Several(t *testing.T) {
	noAuthority(t, api.ErrLong, 0, long(" @:", 4097), "\x00@"+long("a", 4096))
	noAuthority(t, api.ErrHost, 0, " @", "u@ a:0", "u@a..b:x\x7f", "\x01@:", "@\n")
	noAuthority(t, api.ErrUser, 0, "@", "u@a..b:0", "u@", "u@:x", "u@[::1")
	noAuthority(t, api.ErrHost, 0, "", "a..b:0", "a..b", ".:x", ":", "[::1:65536", "a b", long("a", 64)+":0", nameOf(254)+":")
	noAuthority(t, api.ErrPort, 0, "a:", "a:0")
	noAuthority(t, api.ErrNone, 0, "a", "1.2.3.4", "[::]")
}

func TestP14_4Text(t *testing.T) {
	for want, x := range map[string]api.Target{
		"example.com:80":       at(named("example.com"), 80),
		"a:1":                  at(named("a"), 1),
		"a:65535":              at(named("a"), 65535),
		"127.0.0.1:443":        at(fourOf(0x7F000001), 443),
		"0.0.0.0:8080":         at(fourOf(0), 8080),
		"255.255.255.255:5":    at(fourOf(0xFFFFFFFF), 5),
		"[::1]:5":              at(sixOf(0, 0, 0, 0, 0, 0, 0, 1), 5),
		"[::]:80":              at(sixOf(), 80),
		"[::ffff:102:304]:9":   at(sixOf(0, 0, 0, 0, 0, 0xFFFF, 0x102, 0x304), 9),
		"[1:2:3:4:5:6:7:8]:10": at(sixOf(1, 2, 3, 4, 5, 6, 7, 8), 10),
		// those that nobody read
		":0":               {},
		":80":              at(api.Host{}, 80),
		"a:0":              at(named("a"), 0),
		"A..b.:7":          at(named("A..b."), 7),
		"a b\xff:7":        at(named("a b\xff"), 7),
		"%C3%A9:7":         at(opaque("%C3%A9"), 7),
		"u@a:1:7":          at(opaque("u@a:1"), 7),
		"::0":              at(opaque(":"), 0),
		"0.0.0.1:7":        at(api.Host{Kind: api.Four, Name: "x", Four: 1, Six: [8]uint16{1}}, 7),
		"[::]:7":           at(api.Host{Kind: api.Six, Name: "x", Four: 1}, 7),
		":7":               at(api.Host{Kind: 5, Name: "x", Four: 1, Six: [8]uint16{1}}, 7),
		":8":               at(api.Host{Kind: 255, Name: "x"}, 8),
		":9":               at(api.Host{Name: "x", Four: 1}, 9),
		nameOf(255) + ":1": at(named(nameOf(255)), 1),
	} {
		if got := Text(x); got != want {
			t.Errorf("Text(%s): %q, not %q", shown(x), got, want)
		}
	}
}

func TestP14_4May(t *testing.T) {
	for _, port := range []uint16{1, 80, 443, 65535} {
		may(t, true, at(named("a"), port), at(named("example.com"), port), at(named("xn--bcher-kva.de"), port), at(named("-_-"), port), at(named(nameOf(253)), port), at(named(long("a", 63)), port), at(fourOf(0), port), at(fourOf(0xFFFFFFFF), port), at(sixOf(), port), at(sixOf(1, 2, 3, 4, 5, 6, 7, 8), port))
		// what Host makes another one of
		may(t, false, at(named("a."), port), at(named("example.com."), port), at(named(nameOf(253)+"."), port), at(named(long("a", 63)+"."), port))
		// what Host refuses
		may(t, false, api.Target{Port: port}, at(opaque("a"), port), at(opaque("example.com"), port), at(named(""), port), at(named("A"), port), at(named("a.."), port), at(named("a..b"), port), at(named("."), port), at(named(".a"), port), at(named("1.2.3.4"), port), at(named("1"), port), at(named("b\u00FCcher"), port), at(named("xn--a"), port), at(named("%61"), port), at(named("[::1]"), port), at(named("a:80"), port), at(named("u@a"), port), at(named("\xff"), port), at(named(nameOf(254)), port), at(named(long("a", 64)), port), at(named(long("a", 5000)), port))
		may(t, false, at(api.Host{Kind: api.Domain, Name: "a", Four: 1}, port), at(api.Host{Kind: api.Four, Four: 1, Name: "a"}, port), at(api.Host{Kind: api.Six, Four: 1}, port), at(api.Host{Name: "a"}, port), at(api.Host{Kind: 5}, port), at(api.Host{Kind: 255, Name: "a"}, port))
	}
	may(t, false, api.Target{}, at(named("a"), 0), at(named("example.com"), 0), at(fourOf(0x7F000001), 0), at(sixOf(), 0), at(opaque("a"), 0), at(named("a."), 0))
}

// Text and May of targets that nobody read.
func TestP14_4AnyTargetByTheWords(t *testing.T) {
	pick := rand.New(rand.NewPCG(4, 142))
	for seed := range uint64(20000) {
		h := anyHost(seed)
		told(t, at(h, 0))
		told(t, at(h, uint16(pick.Uint32())))
	}
	for port := range 65536 {
		x := at(named("a"), uint16(port))
		if got, want := Text(x), wordsText(x); got != want || May(x) != (port > 0) {
			t.Errorf("%s: %q, %v", shown(x), got, May(x))
		}
	}
}

// What is answered may be, and is read as itself, both ways.
func TestP14_5ThereAndBack(t *testing.T) {
	for _, h := range []api.Host{
		named("a"), named("example.com"), named("www.a-b_c.d9"), named("xn--bcher-kva.de"), named("xn--4db"), named("-"), named("_._"), named("1.a"), named("0xg"), named("http"), named("https"), named(nameOf(253)), named(long("a.", 253)), named(long("a", 63)),
		fourOf(0), fourOf(1), fourOf(0x7F000001), fourOf(0xFFFFFFFF), sixOf(), sixOf(0, 0, 0, 0, 0, 0, 0, 1), sixOf(1), sixOf(1, 0, 0, 2, 0, 0, 0, 3), sixOf(1, 2, 3, 4, 5, 6, 7, 8), sixOf(0, 0, 0, 0, 0, 0xFFFF, 0x102, 0x304),
	} {
		for _, port := range []uint16{1, 2, 9, 10, 21, 79, 80, 81, 99, 100, 443, 999, 1000, 8080, 9999, 10000, 65534, 65535} {
			may(t, true, at(h, port))
			thereAndBack(t, at(h, port))
			absolute(t, "https://"+Text(at(h, port)), at(h, port), api.OK)
			absolute(t, "http://"+Text(at(h, port))+"/x?y#z", at(h, port), api.OK)
		}
	}
	pick := rand.New(rand.NewPCG(5, 14))
	for range 5000 {
		six := sixOf()
		for i := range 8 {
			six.Six[i] = uint16(pick.Uint32()) * uint16(pick.IntN(2))
		}
		for _, h := range []api.Host{fourOf(pick.Uint32()), six} {
			x := at(h, uint16(pick.Uint32()|1))
			may(t, true, x)
			thereAndBack(t, x)
		}
	}
}

// Whatever is answered without an error may be.
func TestP14_5WhatIsAnsweredMayBe(t *testing.T) {
	check := func(x api.Target, e api.Errno) {
		t.Helper()
		if May(x) != (e == api.OK) {
			t.Errorf("%s, %v: may be is %v", shown(x), e, May(x))
		}
	}
	for seed := range uint64(20000) {
		s := picked(seed, int(seed%5)+1, bits)
		check(Absolute(s))
		check(Absolute("http://" + s))
		check(Authority(s, uint16(seed)))
		check(Authority(s+":80", 0))
	}
}

// Ways of writing one host.
func TestP14_5OneHost(t *testing.T) {
	for _, c := range []struct {
		want     api.Host
		spelling []string
	}{
		{named("example.com"), []string{"example.com", "EXAMPLE.COM", "eXample.cOM", "example.com.", "EXAMPLE.COM.", byPercent("example.com"), strings.ToUpper(byPercent("example.com.")), "%45XAMPLE%2Ecom", wide("example.com"), wide("EXAMPLE.COM."), "example\u3002com", "example\uFF61com\u3002", "ex\u00ADample.com", "%EF%BD%85xample.com", "example.com%2e", "example.com%E3%80%82"}},
		{named("xn--bcher-kva.de"), []string{"b\u00FCcher.de", "B\u00DCCHER.DE", "bu\u0308cher.de", "BU\u0308CHER.de.", "b%C3%BCcher.de", "b%c3%bccher%2ede", "xn--bcher-kva.de", "XN--BCHER-KVA.DE.", wide("xn--bcher-kva.de"), "bu%CC%88cher\u3002de", byPercent("b\u00FCcher.de")}},
		{fourOf(0x7F000001), []string{"127.0.0.1", "127.0.0.1.", "127.1", "127.0.1", "0x7f.1", "0X7F.0.0.0x1", "0177.1", "2130706433", "0x7f000001", "017700000001", wide("127.0.0.1"), byPercent("127.0.0.1"), "127\u30021", "127.1%2e", "00177.0x.00.1", "\u00B927.\u00B9"}},
		{sixOf(0, 0, 0, 0, 0, 0, 0, 1), []string{"[::1]", "[0::1]", "[::0:1]", "[0:0:0:0:0:0:0:1]", "[0000::0001]", "[::0.0.0.1]", "[0:0:0:0:0:0:0.0.0.1]"}},
		{sixOf(0xABCD, 0, 0, 0, 0, 0xFFFF, 0x102, 0x304), []string{"[abcd::ffff:102:304]", "[ABCD::FFFF:1.2.3.4]", "[aBcD:0::0:fFfF:0102:0304]", "[abcd:0:0:0:0:ffff:1.2.3.4]"}},
	} {
		seen := map[api.Target]int{}
		for _, s := range c.spelling {
			for _, text := range []string{"http://" + s + ":8080", "HTTPS:" + s + ":08080/x", " http:\\\\" + s + ":8080?q ", "http://@" + s + ":8080#f"} {
				x, e := Absolute(text)
				if e != api.OK {
					t.Errorf("Absolute(%q): %v", text, e)
				}
				seen[x]++
			}
			for _, text := range []string{s, s + ":8080", s + ":08080"} {
				x, e := Authority(text, 8080)
				if e != api.OK {
					t.Errorf("Authority(%q, 8080): %v", text, e)
				}
				seen[x]++
			}
			h, _ := host.Parse(s, true)
			canonical(t, h, c.want, api.OK)
		}
		if len(seen) != 1 || seen[at(c.want, 8080)] != 7*len(c.spelling) {
			t.Errorf("%s: one target is %d", shownHost(c.want), len(seen))
		}
	}
}

// Marks in any order are one name.
func TestP14_5Marks(t *testing.T) {
	want, e := Authority("\u1E69:1", 0)
	if e != api.OK {
		t.Fatal(e)
	}
	for _, s := range []string{"s\u0323\u0307", "s\u0307\u0323", "S\u0307\u0323", "\u1E63\u0307", "\u1E61\u0323", "\u1E62\u0307", "\u1E68", "%53\u0307%CC%A3."} {
		authority(t, s, 1, want, api.OK)
		absolute(t, "http://"+s+":1", want, api.OK)
	}
}

// Other hosts are other targets.
func TestP14_5OtherTargets(t *testing.T) {
	seen := map[api.Target]string{}
	for _, s := range []string{"a:80", "a:81", "b:80", "a.b:80", "b.a:80", "xn--80a:80", "1.2.3.4:80", "1.2.3.5:80", "[::1]:80", "[::2]:80", "[::1.2.3.4]:80", "[::ffff:1.2.3.4]:80", "a-b:80", "a_b:80", "ab:80", "ss:80", "\u00DF:80"} {
		x, e := Authority(s, 0)
		if other, there := seen[x]; there || e != api.OK {
			t.Errorf("%s is %s, %v", s, other, e)
		}
		seen[x] = s
	}
}

func TestP14_5ByTheWords(t *testing.T) {
	texts(2, bits, func(s string) { byWords(t, s) })
	texts(4, fewBits, func(s string) {
		byWords(t, s)
		want, e := wordsAbsolute("http://" + s)
		absolute(t, "http://"+s, want, e)
	})
	for seed := range uint64(10000) {
		byWords(t, picked(seed, int(seed%6)+3, bits))
		byWords(t, "http://"+picked(seed, int(seed%6)+1, bits))
		byWords(t, picked(seed, int(seed%14), fewBits))
		byWords(t, "["+picked(seed, int(seed%8), []string{"::", ":", "1", "f", "1.2.3.4", "1:2:3:4:5:6:", "]", "%"})+"]"+picked(seed, int(seed%3), []string{":", "80", "]", "a"}))
	}
}

// Where layer 13 refuses a URL, that is what is answered, and nothing else.
func TestP14_5AsLayer13(t *testing.T) {
	texts(2, bits, func(s string) {
		_, refused := url.Parse(s)
		if x, e := Absolute(s); refused != api.OK && (e != refused || x != api.Target{}) {
			t.Errorf("Absolute(%q): %s, %v, not %v", s, shown(x), e, refused)
		}
	})
}

// What was answered once stays as it is, whatever is asked later; what was handed in stays, too.
func TestP14_5AnswersStay(t *testing.T) {
	given := []string{"EXAMPLE.com.:81", "b\u00FCcher:82", "0x7f.1:83", "[::0001]:84"}
	want := []api.Target{at(named("example.com"), 81), at(named("xn--bcher-kva"), 82), at(fourOf(0x7F000001), 83), at(sixOf(0, 0, 0, 0, 0, 0, 0, 1), 84)}
	wantTexts := []string{"example.com:81", "xn--bcher-kva:82", "127.0.0.1:83", "[::1]:84"}
	var held, urls []api.Target
	var hosts []api.Host
	var heldTexts []string
	for _, s := range given {
		x, _ := Authority(s, 0)
		y, _ := Absolute("http://" + s)
		h, _ := Host(x.Host)
		held, urls, hosts, heldTexts = append(held, x), append(urls, y), append(hosts, h), append(heldTexts, Text(x))
	}
	for seed := range uint64(2000) {
		s := picked(seed, 4, bits)
		later, _ := Authority(s, 80)
		later.Host.Name, later.Host.Four, later.Host.Six[7] = "bad", 0xBAD, 0xBAD // a copy of one's own
		May(later)
		Text(later)
		Host(later.Host)
		Absolute(s)
		Absolute("http://other.net.:81")
		Authority("OTHER.net", 81)
	}
	for i := range given {
		if held[i] != want[i] || urls[i] != want[i] || hosts[i] != want[i].Host || heldTexts[i] != wantTexts[i] {
			t.Errorf("%s became %s, %s, %s, %q", shown(want[i]), shown(held[i]), shown(urls[i]), shownHost(hosts[i]), heldTexts[i])
		}
		authority(t, given[i], 0, want[i], api.OK)
	}
}

// An answer is memory of its own, even where it is the same text.
func TestP14_5AnswersAreNew(t *testing.T) {
	for _, name := range []string{"plain", "plain.name", "xn--tda", "1.a", "plain."} {
		h := named(strings.Clone(name))
		if got, e := Host(h); e != api.OK || inside(got.Name, h.Name) {
			t.Errorf("Host(%s): %v, or the argument's own memory", shownHost(h), e)
		}
		if x := at(h, 80); inside(Text(x), h.Name) {
			t.Errorf("Text(%s): the argument's own memory", shown(x))
		}
		for _, s := range []string{name, name + ":80", "http://" + name, "http://" + name + "/"} {
			s = strings.Clone(s)
			x, _ := Authority(s, 80)
			y, _ := Absolute(s)
			if inside(x.Host.Name, s) || inside(y.Host.Name, s) {
				t.Errorf("%q: the argument's own memory", s)
			}
		}
	}
}
