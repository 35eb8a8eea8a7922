package rule

import (
	"fmt"
	"slices"
	"strconv"
	"strings"
	"testing"

	"portcullis/api"
	"portcullis/lex"
)

// What stands behind the words of conditions, right and wrong, and what stands nowhere, or elsewhere.
var (
	names   = []string{"a", "EXAMPLE.com.", `"B\u{dc}CHER.example"`, "b\u00FCcher.de", `"a"`, "%41.b", "1.2.3.4", "0x7f.1", "[::1]", "a..b", `""`, "host", "allow", "\uFF41\u3002b", "a.1", "xn--tda", `"a b"`, "127.1"}
	nets    = []string{"10.0.0.0/8", "0.0.0.0/0", "1.2.3.4/32", "[::]/0", "[fe80::]/10", "[::1]/128", "10.0.0.1/8", "1.2.3.4/33", "10.0.0.0/08", "10.0.0.0", "[::]/129", "a/8", "1/32", "::/0", "0x7f.0/8"}
	scripts = []string{"Latin", "Greek", "Cyrillic", "Hebrew", "Arabic", "Devanagari", "Hiragana", "Katakana", "Han", "Deseret", "Latin", "Han"}
	ports   = []string{"80", "443", "1", "65535", "1-65535", "8080-8090", "5-5", "2-1", "0", "65536", "080"}
	others  = []string{"allow", "deny", "any", "host", "under", "like", "net", "scripts", "level", "ports", ",", "!", "!!", "\n", "\r\n", `"any"`, `"Latin"`, `"80"`, `"`, "Common", "Inherited", "latin", "ANY", "Any", "two", "0", "65536", "080", "1-", "-1", "2-1", "-", "a", "[", "/", "#", "# x\n", "\x01", "\xff", "\u00FC"}
)

func TestP16_1Examples(t *testing.T) {
	reads(t, "deny like paypal.com !host paypal.com", denies(likeOf("paypal.com"), not(hostOf(domainOf("paypal.com")))))
	reads(t, `allow under "B\u{dc}CHER.example" ports 80,443-445`, allows(underOf("xn--bcher-kva.example"), portsOf(port(80), api.Ports{From: 443, To: 445})))
	reads(t, "allow net 10.0.0.0/8", allows(netOf(fourOf(0x0A000000), 8)))
	refuses(t, "allow net 10.0.0.1/8", api.ErrNet, 1, 10)
	refuses(t, "permit any", api.ErrVerdict, 1, 0)
	refuses(t, "allow", api.ErrCond, 1, 5)
	refuses(t, "allow !", api.ErrCond, 1, 7)
	refuses(t, "allow scripts Latin,", api.ErrScript, 1, 20)
	refuses(t, "allow under 1.2.3.4", api.ErrName, 1, 12)
	refuses(t, "allow host a..b", api.ErrName, 1, 11)
}

// The document's own rules.
func TestP16_1ExamplesOfTheWhole(t *testing.T) {
	reads(t, "deny like paypal.com !host paypal.com\nallow under example.com ports 80, 443\nallow host paypal.com\n",
		denies(likeOf("paypal.com"), not(hostOf(domainOf("paypal.com")))),
		allows(underOf("example.com"), portsOf(port(80), port(443))),
		allows(hostOf(domainOf("paypal.com"))))
}

func TestP16_1EveryCondition(t *testing.T) {
	readsOne(t, "any", anyOf())
	readsOne(t, "host a.b", hostOf(domainOf("a.b")))
	readsOne(t, "host 1.2.3.4", hostOf(fourOf(0x01020304)))
	readsOne(t, "host [::1]", hostOf(sixOf(0, 0, 0, 0, 0, 0, 0, 1)))
	readsOne(t, "under a.b", underOf("a.b"))
	readsOne(t, "like a.b", likeOf("a.b"))
	readsOne(t, "net 1.2.0.0/16", netOf(fourOf(0x01020000), 16))
	readsOne(t, "net [1:2::]/32", netOf(sixOf(1, 2), 32))
	readsOne(t, "scripts Latin", scriptsOf(api.Latin))
	readsOne(t, "scripts Latin,Greek , Han", scriptsOf(api.Latin, api.Greek, api.Han))
	readsOne(t, "level high", levelAt(api.LevelHigh))
	readsOne(t, "ports 80", portsOf(port(80)))
	readsOne(t, "ports 80,1-9 , 443", portsOf(port(80), api.Ports{From: 1, To: 9}, port(443)))
}

func TestP16_1SeveralConditions(t *testing.T) {
	reads(t, "allow any host a !under b like c !net 0.0.0.0/0 scripts Latin !level any ports 1",
		allows(anyOf(), hostOf(domainOf("a")), not(underOf("b")), likeOf("c"), not(netOf(fourOf(0), 0)), scriptsOf(api.Latin), not(levelAt(api.LevelAny)), portsOf(port(1))))
	reads(t, "deny\t!any! any!host a!host \"b\"!ports 1,2!ports 3", denies(not(anyOf()), not(anyOf()), not(hostOf(domainOf("a"))), not(hostOf(domainOf("b"))), not(portsOf(port(1), port(2))), not(portsOf(port(3)))))
	reads(t, "allow ports 1 ports 2", allows(portsOf(port(1)), portsOf(port(2))))
	reads(t, "allow scripts Han scripts Latin", allows(scriptsOf(api.Han), scriptsOf(api.Latin)))
	// Words of conditions, and of rules, are names where a name stands.
	reads(t, "allow host host host any any under allow like deny", allows(hostOf(domainOf("host")), hostOf(domainOf("any")), anyOf(), underOf("allow"), likeOf("deny")))
	reads(t, "allow host any", allows(hostOf(domainOf("any"))))
	reads(t, "allow level any any", allows(levelAt(api.LevelAny), anyOf()))
	reads(t, `allow host"a"any`, allows(hostOf(domainOf("a")), anyOf()))
}

func TestP16_1Lines(t *testing.T) {
	for _, none := range []string{"", "\n", "\r\n", "\n\n \n\t\n", "#", "# allow any", " # x\n#\n\r\n", "   "} {
		reads(t, none)
	}
	all, no := allows(anyOf()), denies(anyOf())
	reads(t, "allow any", all)
	reads(t, "allow any\n", all)
	reads(t, "allow any\r\n", all)
	reads(t, " \t allow\tany  # deny any\n", all)
	reads(t, "allow any#x", all)
	reads(t, "allow any\ndeny any", all, no)
	reads(t, "\n\n# x\nallow any\n\n # y\n\t\ndeny any\r\n\r\n#", all, no)
	reads(t, "deny any\nallow any\nallow any\ndeny any\n", no, all, all, no)
	reads(t, "allow host a # b\n", allows(hostOf(domainOf("a"))))
	reads(t, "allow host a#b\n", allows(hostOf(domainOf("a"))))
	refuses(t, "allow host #a\n", api.ErrName, 1, 13)
	refuses(t, "allow\nany\n", api.ErrCond, 1, 5)
	refuses(t, "allow any\n\n any", api.ErrVerdict, 3, 1)
	refuses(t, "allow any allow any", api.ErrCond, 1, 10)
	refuses(t, "allow host\na", api.ErrName, 1, 10)
	refuses(t, "allow ports 1,\n2", api.ErrPorts, 1, 14)
	refuses(t, "allow ports 1,# 2\r\n", api.ErrPorts, 1, 17)
}

func TestP16_1Verdicts(t *testing.T) {
	for _, s := range []string{"permit", "ALLOW", "Allow", "DENY", "Deny", "any", "allo", "allowed", "denyy", "al", "a", "host", `"allow"`, `"deny"`, `""`, ",", "!", "!allow", ",allow", "allow/", "-", "0", "\u00E4llow", `\`} {
		refuses(t, s, api.ErrVerdict, 1, 0)
		refuses(t, s+" any", api.ErrVerdict, 1, 0)
		refuses(t, " \t"+s+" any\n", api.ErrVerdict, 1, 2)
		refuses(t, "# x\nallow any\n\r\n  "+s+" any # y\nallow any", api.ErrVerdict, 4, 2)
	}
}

func TestP16_1Conditions(t *testing.T) {
	wrong := []string{",", `"any"`, `""`, `"host"`, "anyy", "an", "ANY", "Any", "HOST", "Host", "UNDER", "LIKE", "NET", "SCRIPTS", "LEVEL", "PORTS", "script", "port", "levels", "hosts", "allow", "deny", "Latin", "80", "a.b", "\u00E4ny", "ascii", "-", `\`}
	for _, s := range wrong {
		for _, front := range []string{"allow ", "deny \t", "allow !", "allow ! ", "allow any !", "allow host a!", "deny ports 80 !", "allow scripts Latin !"} {
			refusesAt(t, front, api.ErrCond, s)
			refuses(t, front, api.ErrCond, 1, len(front))
			refuses(t, front+"# any\nallow any", api.ErrCond, 1, len(front)+5)
		}
		if s != "," { // there it is one of a list
			for _, front := range []string{"allow ports 80 ", "allow scripts Latin, Greek "} {
				refusesAt(t, front, api.ErrCond, s)
			}
		}
		for _, front := range []string{"allow any ", "deny !any ", "allow host a ", `allow under "a" `, "allow like a ", "allow net 1.2.3.4/32 ", "allow level one "} {
			refusesAt(t, front, api.ErrCond, s)
		}
	}
}

func TestP16_1Nots(t *testing.T) {
	refusesAt(t, "allow !", api.ErrCond, "!any", "!", "!!any", "! any", ", any", `"any"`)
	refuses(t, "allow any !", api.ErrCond, 1, 11)
	refuses(t, "allow any ! # x", api.ErrCond, 1, 15)
	refuses(t, "allow any!,", api.ErrCond, 1, 10)
	refuses(t, "allow !\nany", api.ErrCond, 1, 7)
	refuses(t, "allow host !a", api.ErrName, 1, 11)
	refuses(t, "allow level !one", api.ErrLevel, 1, 12)
	refuses(t, "allow net !1.2.3.4/32", api.ErrNet, 1, 10)
	refuses(t, "allow ports !80", api.ErrPorts, 1, 12)
	refuses(t, "allow scripts !Latin", api.ErrScript, 1, 14)
	refuses(t, "allow ports 80,!81", api.ErrPorts, 1, 15)
}

func TestP16_1ManyRules(t *testing.T) {
	one := allows(anyOf())
	for _, between := range []string{"\n", "\r\n", "\n\n\n", " # x\n#\n \t\n"} {
		text := "\n#\n" + strings.Repeat("allow any"+between, 255)
		reads(t, text, slices.Repeat([]api.Rule{one}, 255)...)
		reads(t, text+"deny any", append(slices.Repeat([]api.Rule{one}, 255), denies(anyOf()))...)
		text += "allow any" + between
		reads(t, text, slices.Repeat([]api.Rule{one}, 256)...)
		reads(t, text+" \n# x\n\n#", slices.Repeat([]api.Rule{one}, 256)...)
		line := 1 + strings.Count(text, "\n")
		for _, more := range []string{"allow any", "deny any", "permit", "allow", "!", ",", `""`, "allow host", "allow any\nallow any"} {
			refuses(t, text+more, api.ErrFull, line, 0)
			refuses(t, text+" \t"+more+"\n", api.ErrFull, line, 2)
			refuses(t, text+"\n#\n "+more+"# x\npermit", api.ErrFull, line+2, 1)
		}
	}
	last := strings.Repeat("allow any\n", 255)
	refuses(t, last+"permit\nallow any", api.ErrVerdict, 256, 0)
	refuses(t, last+"allow\nallow any", api.ErrCond, 256, 5)
	refuses(t, last+"allow any any any any any any any any any\nallow any", api.ErrFull, 256, 38)
	refuses(t, last+"allow any\nallow any\n\x01", api.ErrByte, 258, 0)
}

func TestP16_1ManyConditions(t *testing.T) {
	for _, c := range []struct {
		text string
		one  api.Cond
	}{{" any", anyOf()}, {" !any", not(anyOf())}, {" host a", hostOf(domainOf("a"))}, {" !ports 1,2", not(portsOf(port(1), port(2)))}, {" scripts Han", scriptsOf(api.Han)}} {
		for n := 1; n <= 8; n++ {
			reads(t, "allow"+strings.Repeat(c.text, n), allows(slices.Repeat(conds(c.one), n)...))
			reads(t, "deny any\ndeny"+strings.Repeat(c.text, n)+"\ndeny any", denies(anyOf()), denies(slices.Repeat(conds(c.one), n)...), denies(anyOf()))
		}
		full := "allow" + strings.Repeat(c.text, 8) + " "
		for _, more := range []string{"any", "!any", "!", "! any", "host a", "host", "!!", "!x", "net", "ports 0", "any any", "scripts Common", "any !"} {
			refuses(t, full+more, api.ErrFull, 1, len(full))
			refuses(t, "\nallow any\n"+full+more+"\npermit", api.ErrFull, 3, len(full))
		}
	}
	refuses(t, "allow any any any any any any any !", api.ErrCond, 1, 35)
	refuses(t, "allow any any any any any any any ,", api.ErrCond, 1, 34)
	refuses(t, "allow any any any any any any any host !any", api.ErrName, 1, 39)
	reads(t, "allow any any any any any any any any\nallow any", allows(slices.Repeat(conds(anyOf()), 8)...), allows(anyOf()))
}

// What is no condition's word stands where one condition too many would begin: of the two faults the one that is named first is told.
func TestP16_1ManyConditionsThenNone(t *testing.T) {
	full := "allow" + strings.Repeat(" any", 8) + " "
	for _, more := range []string{"x", ",", `"any"`, "allow", "ANY"} {
		refuses(t, full+more, api.ErrFull, 1, len(full))
	}
}

func TestP16_1ManyParts(t *testing.T) {
	for n := 1; n <= 16; n++ {
		readsOne(t, "scripts Han"+strings.Repeat(",Han", n-1), scriptsOf(api.Han))
		readsOne(t, "ports 7"+strings.Repeat(" , 7", n-1), portsOf(slices.Repeat([]api.Ports{port(7)}, n)...))
	}
	several := []string{"Greek", "Latin", "Han", "Arabic"}
	for _, front := range []string{"allow scripts " + strings.Join(slices.Repeat(several, 4), ","), "allow ports 1" + strings.Repeat(", 2-3", 15), "deny !ports 80" + strings.Repeat(",80", 15)} {
		if l, f := Parse(front); len(l) != 1 || f.Err != api.OK {
			t.Errorf("%q: %v", front, f)
		}
		for _, more := range []string{",", ",1", ",Han", ", x", ",,", ",!", `,""`} {
			refuses(t, front+more, api.ErrFull, 1, len(front))
			refuses(t, "\n"+front+" "+more+" any\npermit", api.ErrFull, 2, len(front)+1)
		}
		refuses(t, front+" x,", api.ErrCond, 1, len(front)+1)
		// The next condition counts anew.
		reads(t, "deny any\n"+front+" ports 1"+strings.Repeat(",1", 15), denies(anyOf()), func() api.Rule {
			l, _ := Parse(front)
			l[0].Conds = append(l[0].Conds, portsOf(slices.Repeat([]api.Ports{port(1)}, 16)...))
			return l[0]
		}())
	}
	refuses(t, "allow scripts Han"+strings.Repeat(",Han", 14)+",x,", api.ErrScript, 1, 74)
	refuses(t, "allow ports 1"+strings.Repeat(",1", 14)+",0,1", api.ErrPorts, 1, 42)
}

func TestP16_1Names(t *testing.T) {
	for want, ways := range map[string][]string{
		"a":                    {"a", "A", `"a"`, `"\u{41}"`, "a.", "%61", "%41.", "\uFF21", "a\u3002", "a\u00AD", `"a\u{ad}"`, "\u00AA", "\"\uFF41\uFF0E\""},
		"example.com":          {"example.com", "EXAMPLE.com.", `"Example.Com"`, "example%2ecom", wide("example.com"), wide("EXAMPLE.COM."), byNumber("example.com"), byNumber(wide("Example.com.")), byPercent("eXample.com"), `"` + byPercent("example.com.") + `"`},
		"xn--bcher-kva.de":     {"xn--bcher-kva.de", "b\u00FCcher.de", "bu\u0308cher.de", "B\u00DCCHER.DE.", "BU\u0308CHER.de", `"b\u{fc}cher.de"`, `"bu\u{308}cher.de"`, "b%C3%BCcher.de", "XN--BCHER-KVA.de", `"xn--bcher-kva.de."`, "bu%CC%88cher%2Ede"},
		"xn--zca.x":            {"\u00DF.x", "xn--zca.x", "%c3%9f.x", `"\u{df}.x"`},
		"xn--e28h":             {"\U0001F600", `"\u{1f600}"`, "xn--e28h", "%F0%9F%98%80."},
		"-":                    {"-", `"-"`},
		"_a-b_.9x":             {"_a-b_.9x", `"_A-B_.9X."`},
		"1.a":                  {"1.a", "1.A."},
		"allow":                {"allow", "ALLOW", `"allow"`},
		"256.256.256.256.256a": {"256.256.256.256.256a"},
		nameOf(253):            {nameOf(253), nameOf(253) + ".", byNumber(nameOf(253)), byPercent(nameOf(253) + "."), wide(nameOf(253))},
	} {
		for _, s := range ways {
			readsOne(t, "host "+s, hostOf(domainOf(want)))
			readsOne(t, "under\t"+s, underOf(want))
			readsOne(t, "like  "+s, likeOf(want))
		}
	}
}

func TestP16_1NamesOfAddresses(t *testing.T) {
	for _, s := range []string{"127.0.0.1", "127.0.0.1.", "127.1", "0x7f.1", "0X7F000001", "2130706433", "0177.0.0.1", "017700000001", `"127.0.0.1"`, "127%2e1", "%31%32%37.1", wide("127.0.0.1"), "127\u30021", `"\u{31}27.1"`} {
		readsOne(t, "host "+s, hostOf(fourOf(0x7F000001)))
		refusesAt(t, "allow under ", api.ErrName, s)
		refusesAt(t, "deny !like ", api.ErrName, s)
	}
	for s, six := range map[string]api.Host{"[::1]": sixOf(0, 0, 0, 0, 0, 0, 0, 1), "[0:0:0:0:0:0:0:1]": sixOf(0, 0, 0, 0, 0, 0, 0, 1), `"[::1]"`: sixOf(0, 0, 0, 0, 0, 0, 0, 1), "[::]": sixOf(), "[1:2:3:4:5:6:7:8]": sixOf(1, 2, 3, 4, 5, 6, 7, 8), "[::FFFF:1.2.3.4]": sixOf(0, 0, 0, 0, 0, 0xFFFF, 0x102, 0x304), `"\u{5b}::\u{5D}"`: sixOf()} {
		readsOne(t, "host "+s, hostOf(six))
		refusesAt(t, "allow any under ", api.ErrName, s)
		refusesAt(t, "deny any !like ", api.ErrName, s)
	}
}

func TestP16_1NoNames(t *testing.T) {
	for _, front := range []string{"allow host ", "allow under ", "deny like ", "allow !host ", "allow any !under ", "deny\thost a like "} {
		refusesAt(t, front, api.ErrName,
			",", "!", ", a", "!a", "!host a", `""`, `"" a`, `" "`, `"a b"`, `" a"`, `"a "`, `"a,b"`, `"!"`, `"a\"b"`, `"a\\b"`, `"\u{0}"`, `"a\u{a}"`, `"a\u{7f}"`, `"#"`, `"a#b"`, `"\u{ad}"`, "\u00AD",
			"a..b", "a..", ".", "..", ".a", "a\u3002\u3002b", "a%2e%2eb", "a:80", "a/b", "a/", "a@b", "a?b", "<a>", "a^b", "a|b", "a$b", "a%", "a%zz", "%", "%00", "%20", "a%25b", "a%2fb", `a\b`, `\`,
			"http://a", "*", "*.a", "a.*", "(a)", "a;b", "a=b",
			"1.2.3.4.5", "256.1", "a.1", "a.0x", "09", "1.2.3.256", "4294967296", "1..2", "a.1.",
			"[", "]", "[]", "[::1", "::1]", "::1", "[1]", "[::1]a", "a[::1]", "[::1]:80", "[::1].", "[[::1]]", "[::g]", "[%3A:]", `"[::1] "`, "[1:2:3:4:5:6:7:8:9]",
			"xn--a", "xn--", "xn--abc-", "a.xn--9", "%ff", "\uFFFD", "\u20AC", "\u2028", "a\u0301\u0301\u20AC", "\u0308a", "\u05D0a", "\u200Ca",
			long("a", 64), "b."+long("a", 64), nameOf(254), nameOf(254)+".", nameOf(253)+"..", long("a.", 4096), long("a", 4097), long("a", 40000), long("\u00FC", 200),
		)
		refuses(t, front, api.ErrName, 1, len(front))
		refuses(t, front+"# a", api.ErrName, 1, len(front)+3)
		refuses(t, front+" \r\n", api.ErrName, 1, len(front)+1)
	}
	refuses(t, "allow host", api.ErrName, 1, 10)
	refuses(t, "allow host a b", api.ErrCond, 1, 13)
	refuses(t, "allow host a,b", api.ErrCond, 1, 12)
	refuses(t, `allow host a"b"`, api.ErrCond, 1, 12)
}

func TestP16_1Nets(t *testing.T) {
	for s, want := range map[string]api.Cond{
		"0.0.0.0/0": netOf(fourOf(0), 0), "0/0": netOf(fourOf(0), 0), "10.0.0.0/8": netOf(fourOf(0x0A000000), 8), "10.0.0.0/7": netOf(fourOf(0x0A000000), 7), "10.0.0.0/31": netOf(fourOf(0x0A000000), 31), "10.0.0.0/32": netOf(fourOf(0x0A000000), 32),
		"128.0.0.0/1": netOf(fourOf(0x80000000), 1), "255.255.255.255/32": netOf(fourOf(0xFFFFFFFF), 32), "255.255.255.254/31": netOf(fourOf(0xFFFFFFFE), 31), "1.2.3.4/32": netOf(fourOf(0x01020304), 32), "1.2.3.4/30": netOf(fourOf(0x01020304), 30),
		"0x7f.0/8": netOf(fourOf(0x7F000000), 8), "127.0.0.0./8": netOf(fourOf(0x7F000000), 8), "2130706432/8": netOf(fourOf(0x7F000000), 8), "1/32": netOf(fourOf(1), 32), "127%2e0/8": netOf(fourOf(0x7F000000), 8), wide("127.0.0.0") + "/8": netOf(fourOf(0x7F000000), 8), "0177.0/8": netOf(fourOf(0x7F000000), 8),
		"[::]/0": netOf(sixOf(), 0), "[::]/128": netOf(sixOf(), 128), "[::1]/128": netOf(sixOf(0, 0, 0, 0, 0, 0, 0, 1), 128), "[fe80::]/10": netOf(sixOf(0xFE80), 10), "[FE80::]/9": netOf(sixOf(0xFE80), 9), "[8000::]/1": netOf(sixOf(0x8000), 1), "[1:2:3:4:5:6:7:8]/128": netOf(sixOf(1, 2, 3, 4, 5, 6, 7, 8), 128), "[1:2:3:4:5:6:7:8]/125": netOf(sixOf(1, 2, 3, 4, 5, 6, 7, 8), 125), "[1:2:3:4:5:6:7:fffe]/127": netOf(sixOf(1, 2, 3, 4, 5, 6, 7, 0xFFFE), 127), "[1::]/16": netOf(sixOf(1), 16), "[::1.2.3.0]/120": netOf(sixOf(0, 0, 0, 0, 0, 0, 0x102, 0x300), 120), "[::ffff:1.2.3.4]/128": netOf(sixOf(0, 0, 0, 0, 0, 0xFFFF, 0x102, 0x304), 128), "[::ffff:0:0]/96": netOf(sixOf(0, 0, 0, 0, 0, 0xFFFF), 96),
	} {
		readsOne(t, "net "+s, want)
	}
}

// Each bit alone: it is ahead of the net's end, or it is none.
func TestP16_1NetsOfEveryLength(t *testing.T) {
	held := func(s string, h api.Host, bits, set int) {
		if set < bits {
			reads(t, "allow net "+s, allows(netOf(h, uint8(bits))))
		} else {
			refuses(t, "allow net "+s, api.ErrNet, 1, 10)
		}
		may := May(allows(netOf(h, uint8(bits))))
		if may != (set < bits) {
			t.Errorf("May of %s: %v", s, may)
		}
	}
	for bits := range 33 {
		readsOne(t, "net 0/"+strconv.Itoa(bits), netOf(fourOf(0), uint8(bits)))
		for set := range 32 {
			h := fourOf(1 << (31 - set))
			held(fmt.Sprintf("%d/%d", h.Four, bits), h, bits, set)
		}
	}
	for bits := range 129 {
		readsOne(t, "net [::]/"+strconv.Itoa(bits), netOf(sixOf(), uint8(bits)))
		for set := range 128 {
			h := sixOf()
			h.Six[set/16] = 0x8000 >> (set % 16)
			colons := strings.ReplaceAll(strings.Trim(fmt.Sprintf("%x", h.Six), "[]"), " ", ":")
			held(fmt.Sprintf("[%s]/%d", colons, bits), h, bits, set)
		}
	}
}

func TestP16_1NoNets(t *testing.T) {
	for _, front := range []string{"allow net ", "deny !net ", "allow any net "} {
		refusesAt(t, front, api.ErrNet,
			",", "!", `""`, `"10.0.0.0/8"`, `"[::]/0"`, `"0/0"`, "any", "a", "10.0.0.0", "[::]", "10.0.0.0/", "[::]/", "/", "//", "/8", "/0", "//0", "0//0", "0/0/", "10.0.0.0/8/8", "10.0.0.0/8/", "/10.0.0.0/8", "8/10.0.0.0", "0/0/0", "[::]/0/0",
			"10.0.0.1/8", "10.0.0.0/6", "10.1.0.0/8", "1.2.3.4/29", "1.2.3.4/0", "128.0.0.0/0", "1/0", "1/31", "255.255.255.255/31", "10/8", "127.1/8",
			"0/33", "1.2.3.4/33", "0/34", "0/64", "0/128", "0/255", "0/256", "0/264", "0/288", "0/999", "0/65536", "0/4294967296", "0/18446744073709551616", "0/36893488147419103240", "0/"+long("9", 100),
			"[::]/129", "[::]/130", "[::]/255", "[::]/256", "[::]/384", "[::1]/127", "[::1]/0", "[1:2:3:4:5:6:7:8]/124", "[fe80::]/8", "[::1]/129", "[::1.2.3.4]/96",
			"0/00", "10.0.0.0/08", "10.0.0.0/008", "0/000", "[::]/00", "[::]/0128", "1.2.3.4/032", "0/-0", "0/+0", "10.0.0.0/+8", "10.0.0.0/-8", "10.0.0.0/8.", "10.0.0.0/8x", "10.0.0.0/x8", "10.0.0.0/0x8", "10.0.0.0/1e1", "10.0.0.0/1_6", "10.0.0.0/\uFF18", "10.0.0.0/%38", "10.0.0.0/255.0.0.0", "10.0.0.0%2F8", "10.0.0.0\uFF0F8", `10.0.0.0\8`, "10.0.0.0:8", "10.0.0.0/8:80",
			"::/0", "::1/128", "[::/0", "::]/0", "[]/0", "[::]x/0", "[::/0]", "[1]/0", "a/8", "example.com/8", "a./0", "x/32", "a..b/8", "256.0.0.0/8", "1.2.3.4.5/32", "1..0/8", ".0/0", "%/8", "\xEF\xBF\xBD/8",
		)
		refuses(t, front, api.ErrNet, 1, len(front))
		refuses(t, front+"# 0/0", api.ErrNet, 1, len(front)+5)
	}
	refuses(t, "allow net", api.ErrNet, 1, 9)
	refuses(t, "allow net 0 /0", api.ErrNet, 1, 10)
	refuses(t, "allow net 0/ 0", api.ErrNet, 1, 10)
	refuses(t, "allow net 0/0 /0", api.ErrCond, 1, 14)
	refuses(t, "allow net 0/0,0/0", api.ErrCond, 1, 13)
	refuses(t, `allow net 0"/0"`, api.ErrNet, 1, 10)
	refuses(t, "allow net 10.0.0.0/#8", api.ErrNet, 1, 10)
}

func TestP16_1Scripts(t *testing.T) {
	all := []string{"Latin", "Greek", "Cyrillic", "Hebrew", "Arabic", "Devanagari", "Hiragana", "Katakana", "Han", "Deseret"}
	numbers := []uint8{2, 3, 4, 5, 6, 7, 8, 9, 10, 11}
	for i, s := range all {
		readsOne(t, "scripts "+s, scriptsOf(numbers[i]))
		readsOne(t, "scripts "+s+","+s, scriptsOf(numbers[i]))
		for j, other := range all {
			if i < j {
				readsOne(t, "scripts "+s+","+other, scriptsOf(numbers[i], numbers[j]))
				readsOne(t, "scripts "+other+", "+s, scriptsOf(numbers[i], numbers[j]))
				readsOne(t, "scripts "+other+","+s+" ,"+other+","+s, scriptsOf(numbers[i], numbers[j]))
			}
		}
	}
	readsOne(t, "scripts "+strings.Join(all, ","), scriptsOf(numbers...))
	back := slices.Clone(all)
	slices.Reverse(back)
	readsOne(t, "scripts "+strings.Join(back, " , "), scriptsOf(numbers...))
	readsOne(t, "scripts "+strings.Join(append(back, "Han", "Latin", "Deseret", "Latin", "Greek", "Han"), ","), scriptsOf(numbers...))
	for seed := range uint64(300) {
		pick := picker(seed)
		var l []string
		var want []uint8
		for range pick.IntN(16) + 1 {
			i := pick.IntN(10)
			l, want = append(l, all[i]), append(want, numbers[i])
		}
		slices.Sort(want)
		readsOne(t, "scripts "+strings.Join(l, ","), scriptsOf(slices.Compact(want)...))
	}
}

func TestP16_1NoScripts(t *testing.T) {
	for _, front := range []string{"allow scripts ", "deny !scripts ", "allow scripts Latin,", "allow any scripts Han ,\tHan, ", "allow scripts Latin scripts "} {
		refusesAt(t, front, api.ErrScript, ",", ",Latin", "!", "!Latin", `"Latin"`, `""`, "Common", "Inherited", "latin", "LATIN", "Latn", "Latin/", "Latinn", "Lati", "Klingon", "Thai", "any", "2", "0", "11", "-", "Han-Latin", "Greek.", "\u00FC", "L\u0430tin", `"\u{4c}atin"`)
		refuses(t, front, api.ErrScript, 1, len(front))
		refuses(t, front+" # Latin", api.ErrScript, 1, len(front)+8)
	}
	refuses(t, "allow scripts", api.ErrScript, 1, 13)
	refuses(t, "allow scripts Latin Greek", api.ErrCond, 1, 20)
	refuses(t, "allow scripts Latin,Greek,", api.ErrScript, 1, 26)
	refuses(t, "allow scripts Latin,,Greek", api.ErrScript, 1, 20)
	refuses(t, "allow scripts Latin,any", api.ErrScript, 1, 20)
	refuses(t, "allow scripts Latin!", api.ErrCond, 1, 20)
}

func TestP16_1Levels(t *testing.T) {
	for s, n := range map[string]uint8{"ascii": api.LevelASCII, "one": api.LevelOne, "high": api.LevelHigh, "middle": api.LevelMiddle, "any": api.LevelAny} {
		readsOne(t, "level "+s, levelAt(n))
		refusesAt(t, "allow level ", api.ErrLevel, strings.ToUpper(s), strings.ToTitle(s[:1])+s[1:], `"`+s+`"`, s+"s", s[:2], s+".", "!"+s, ","+s)
	}
	for _, front := range []string{"allow level ", "deny !level ", "allow any level one level "} {
		refusesAt(t, front, api.ErrLevel, ",", "!", `""`, "two", "low", "1", "0", "5", "all", "none", "Latin", "-", "level", "\u00FC")
		refuses(t, front, api.ErrLevel, 1, len(front))
		refuses(t, front+"#one", api.ErrLevel, 1, len(front)+4)
	}
	refuses(t, "allow level", api.ErrLevel, 1, 11)
	refuses(t, "allow level one,high", api.ErrCond, 1, 15)
	refuses(t, "allow level one high", api.ErrCond, 1, 16)
}

func TestP16_1Ports(t *testing.T) {
	for s, want := range map[string]api.Ports{"1": port(1), "9": port(9), "80": port(80), "65535": port(65535), "1-1": port(1), "80-80": port(80), "65535-65535": port(65535), "1-65535": {From: 1, To: 65535}, "443-445": {From: 443, To: 445}, "9-10": {From: 9, To: 10}, "65534-65535": {From: 65534, To: 65535}, "99-100": {From: 99, To: 100}} {
		readsOne(t, "ports "+s, portsOf(want))
		readsOne(t, "ports 7,"+s+", 5-6", portsOf(port(7), want, api.Ports{From: 5, To: 6}))
	}
	// They stand as they are told: in any order, twice, within one another.
	readsOne(t, "ports 443,80,80,1-100,50", portsOf(port(443), port(80), port(80), api.Ports{From: 1, To: 100}, port(50)))
}

func TestP16_1EveryPort(t *testing.T) {
	for n := range 70000 {
		s := strconv.Itoa(n)
		if n < 1 || n > 65535 {
			refuses(t, "allow ports "+s, api.ErrPorts, 1, 12)
			refuses(t, "allow ports "+s+"-65535", api.ErrPorts, 1, 12)
			refuses(t, "allow ports 1-"+s, api.ErrPorts, 1, 12)
			continue
		}
		p := uint16(n)
		reads(t, "allow ports "+s+","+s+"-65535,1-"+s, allows(portsOf(port(p), api.Ports{From: p, To: 65535}, api.Ports{From: 1, To: p})))
		refuses(t, "allow ports 0"+s, api.ErrPorts, 1, 12)
		refuses(t, "allow ports "+s+"-"+strconv.Itoa(n-1), api.ErrPorts, 1, 12)
	}
}

func TestP16_1NoPorts(t *testing.T) {
	for _, front := range []string{"allow ports ", "deny !ports ", "allow ports 80,", "allow any ports 1-2 , 3,\t", "allow ports 1 ports "} {
		refusesAt(t, front, api.ErrPorts,
			",", ",80", "!", "!80", `"80"`, `"1-2"`, `""`, "any", "a", "http", "0", "00", "01", "080", "00080", "0-0", "0-1", "0-65535", "1-0", "01-2", "1-02", "1-2-3", "1--2", "-", "--", "-1", "1-", "-1-2", "1-2-", "+1", "1-+2", "+1-2", "80-79", "65535-1", "2-1", "65536", "65537", "65616", "1-65536", "65536-65537", "65537-65538", "131072", "4294967376", "18446744073709551696", "1-18446744073709551696", long("1", 50),
			"80.", "80/", "8o", "0x50", "80a", "a80", "8_0", "1_2-3", "80:", "80-x", "x-80", "1..2", "1:2", "1~2", "\uFF18\uFF10", "1\u20132", "1\uFF0D2", "%38%30", "\u00B2", "\u0661",
		)
		refuses(t, front, api.ErrPorts, 1, len(front))
		refuses(t, front+" # 80", api.ErrPorts, 1, len(front)+5)
	}
	refuses(t, "allow ports", api.ErrPorts, 1, 11)
	refuses(t, "allow ports 80 -443", api.ErrCond, 1, 15)
	refuses(t, "allow ports 80 - 443", api.ErrCond, 1, 15)
	refuses(t, "allow ports 80- 443", api.ErrPorts, 1, 12)
	refuses(t, "allow ports 80 443", api.ErrCond, 1, 15)
	refuses(t, `allow ports 80"443"`, api.ErrCond, 1, 14)
	refuses(t, "allow ports 80,443,", api.ErrPorts, 1, 19)
	refuses(t, "allow ports 80,,443", api.ErrPorts, 1, 15)
	refuses(t, "allow ports 80,any", api.ErrPorts, 1, 15)
}

// The first fault is told, in a line and in a text, whatever is behind it; those of layer 15 wherever they stand.
func TestP16_1Order(t *testing.T) {
	wrong := []struct {
		text string
		e    api.Errno
		at   int
	}{
		{"permit any", api.ErrVerdict, 0}, {"allow x", api.ErrCond, 6}, {"allow !", api.ErrCond, 7}, {"allow host", api.ErrName, 10}, {"allow under 1", api.ErrName, 12}, {"allow net 1/0", api.ErrNet, 10},
		{"allow scripts x", api.ErrScript, 14}, {"allow level x", api.ErrLevel, 12}, {"allow ports x", api.ErrPorts, 12}, {"allow any any any any any any any any any", api.ErrFull, 38}, {"allow ports 1,1,1,1,1,1,1,1,1,1,1,1,1,1,1,1,1", api.ErrFull, 43},
	}
	for _, x := range wrong {
		for _, y := range wrong {
			refuses(t, x.text+"\n"+y.text, x.e, 1, x.at)
			refuses(t, "allow any\n\n"+x.text+"\n"+y.text+"\n", x.e, 3, x.at)
			if y.e != api.ErrVerdict && x.e != api.ErrVerdict && y.at != 38 {
				// What was wrong in y stands behind a condition that is right, ahead of what was wrong in x.
				at := len("deny any") - len("allow") + y.at
				if y.at == len(y.text) {
					at++
				}
				refuses(t, "deny any"+strings.TrimPrefix(y.text, "allow")+" , "+x.text, y.e, 1, at)
			}
		}
		refuses(t, x.text+"\nallow \x01", api.ErrByte, 2, 6)
		refuses(t, x.text+"\n\n\"", api.ErrText, 3, 0)
		refuses(t, x.text+" # \xff", api.ErrUtf, 1, len(x.text)+3)
		refuses(t, long(x.text+"\n", 65537), api.ErrLong, 0, 0)
	}
	refuses(t, "permit host a..b", api.ErrVerdict, 1, 0)
	refuses(t, "allow host a..b ports 0", api.ErrName, 1, 11)
	refuses(t, "allow ports 0 host a..b", api.ErrPorts, 1, 12)
	refuses(t, "allow scripts x, y, z", api.ErrScript, 1, 14)
	refuses(t, "allow ports 1, 0, x", api.ErrPorts, 1, 15)
	refuses(t, "allow ! ! x", api.ErrCond, 1, 8)
	refuses(t, "allow host , x", api.ErrName, 1, 11)
}

func TestP16_1LexFaults(t *testing.T) {
	refuses(t, "allow host \"a", api.ErrText, 1, 11)
	refuses(t, `allow host "\q"`, api.ErrText, 1, 12)
	refuses(t, `allow host "\u{110000}"`, api.ErrText, 1, 12)
	refuses(t, "allow any\x00", api.ErrByte, 1, 9)
	refuses(t, "allow any\rdeny any", api.ErrByte, 1, 9)
	refuses(t, "# \x7f\nallow any", api.ErrByte, 1, 2)
	refuses(t, "allow any\n\nallow host \xff", api.ErrUtf, 3, 11)
	refuses(t, long("\n", 65537), api.ErrLong, 0, 0)
	refuses(t, long("#", 1<<20), api.ErrLong, 0, 0)
	reads(t, long("#", 65536))
	reads(t, "allow any #"+long("x", 65536-11), allows(anyOf()))
	refuses(t, "allow any #"+long("x", 65537-11), api.ErrLong, 0, 0)
	refuses(t, "allow host "+long("x", 65536-11), api.ErrName, 1, 11)
	for seed := range uint64(2000) {
		pick := picker(seed)
		text := one(pick, others) + one(pick, []string{"\xff", "\x02", `"`, `"\`, "a"}) + one(pick, others)
		if _, want := lex.Lex(text); want.Err != api.OK {
			parsed(t, text, nil, want)
		}
	}
}

// Each byte in each place of what a condition needs.
func TestP16_1EveryByte(t *testing.T) {
	for c := range 256 {
		s := string([]byte{byte(c)})
		for _, front := range []string{"", "allow", "allow ", "allow any", "allow any ", "allow !", "allow host ", "allow host a", "allow host \"", "allow under a.", "deny like 1", "allow net 0/", "allow net 0", "allow net ", "allow net [::]/12", "allow scripts ", "allow scripts Latin", "allow scripts Latin,", "allow level ", "allow level one", "allow ports ", "allow ports 8", "allow ports 80-", "allow ports 80-90", "allow ports 80,"} {
			for _, back := range []string{"", "0", " ", "a", "\"", " any", ".b", "/8", "-1", ",Han", ",5"} {
				byWords(t, front+s+back)
			}
		}
	}
}

func TestP16_1ByTheWords(t *testing.T) {
	few := []string{"any", "!", ",", "host", "a", "net 0/0", "scripts", "Latin", "level one", "ports", "80", "\"b\"", "\nallow", "x"}
	texts(4, few, func(s string) { byWords(t, "allow"+s) })
	texts(3, append(few, "deny", "net", "0/0", "level", "one", "under", "like", "1.2.3.4", "#", "\n", "\r\n"), func(s string) { byWords(t, s[min(len(s), 1):]) })
	good := 0
	for seed := range uint64(30000) {
		pick := picker(seed)
		var lines []string
		for range pick.IntN(4) {
			lines = append(lines, lineOf(pick))
		}
		if byWords(t, strings.Join(lines, one(pick, []string{"\n", "\n", "\r\n", "\n\n#\n"}))) && len(lines) > 0 {
			good++
		}
	}
	if good < 2000 {
		t.Errorf("only %d texts of lines are rules", good)
	}
}

func TestP16_1Memory(t *testing.T) {
	const text = "deny host paypal.com scripts Han,Latin ports 80,443\nallow under paypal.com scripts Latin,Han ports 443,80-81\nallow like \"paypal.com\" net 10.0.0.0/8\n"
	whole := strings.Clone(text)
	first, _ := Parse(whole)
	want := copied(first)
	for i := range first {
		for _, c := range first[i].Conds {
			if inside(c.Host.Name, whole) {
				t.Errorf("%q is memory of the text", c.Host.Name)
			}
		}
	}
	second, _ := Parse(whole)
	// Whatever is done to one list reaches no other one, of this answer or of another one.
	for i := range second {
		for j := range second[i].Conds {
			c := &second[i].Conds[j]
			c.Scripts = append(c.Scripts, 99, 98, 97)
			c.Ports = append(c.Ports, port(99), port(98), port(97))
			for k := range c.Scripts {
				c.Scripts[k] = 77
			}
			for k := range c.Ports {
				c.Ports[k] = port(77)
			}
		}
		second[i].Conds = append(second[i].Conds, anyOf(), anyOf())
		for j := range second[i].Conds {
			second[i].Conds[j].Kind = 77
		}
		if i < len(second)-1 && !same(second[i+1:], want[i+1:]) {
			t.Errorf("rule %d shares memory with one behind it", i)
		}
	}
	if !same(first, want) {
		t.Error("a later answer shares memory with an earlier one")
	}
	parsed(t, text, want, api.Fault{})
	if _, f := Parse(text + "permit"); f.Err != api.ErrVerdict || !same(first, want) {
		t.Error("a later fault changes an earlier answer")
	}
}

func TestP16_2MayKinds(t *testing.T) {
	for kind := range 256 {
		c := api.Cond{Kind: uint8(kind)}
		may(t, kind == 1, c)
	}
	may(t, true, anyOf(), hostOf(domainOf("a")), hostOf(fourOf(0)), hostOf(sixOf()), underOf("a"), likeOf("a"), netOf(fourOf(0), 0), netOf(sixOf(), 0), scriptsOf(2), levelAt(1), portsOf(port(1)))
}

// Of each kind each field that it has not, set to something.
func TestP16_2MayFields(t *testing.T) {
	sets := []struct {
		field string
		set   func(c *api.Cond)
	}{
		{"host", func(c *api.Cond) { c.Host = domainOf("a") }},
		{"host", func(c *api.Cond) { c.Host = fourOf(1) }},
		{"host", func(c *api.Cond) { c.Host = api.Host{Name: "a"} }},
		{"host", func(c *api.Cond) { c.Host = api.Host{Four: 1} }},
		{"host", func(c *api.Cond) { c.Host = api.Host{Six: [8]uint16{7: 1}} }},
		{"host", func(c *api.Cond) { c.Host = api.Host{Kind: api.Six} }},
		{"bits", func(c *api.Cond) { c.Bits = 1 }},
		{"bits", func(c *api.Cond) { c.Bits = 255 }},
		{"scripts", func(c *api.Cond) { c.Scripts = []uint8{2} }},
		{"scripts", func(c *api.Cond) { c.Scripts = []uint8{0} }},
		{"level", func(c *api.Cond) { c.Level = 1 }},
		{"level", func(c *api.Cond) { c.Level = 9 }},
		{"ports", func(c *api.Cond) { c.Ports = []api.Ports{port(1)} }},
		{"ports", func(c *api.Cond) { c.Ports = []api.Ports{{}} }},
	}
	for _, c := range []api.Cond{anyOf(), hostOf(domainOf("a")), hostOf(fourOf(0)), underOf("b"), likeOf("c"), netOf(fourOf(0), 0), netOf(sixOf(), 9), scriptsOf(2, 3), levelAt(3), portsOf(port(80))} {
		may(t, true, c)
		for _, x := range sets {
			if !strings.Contains(fieldsOf[c.Kind], x.field) {
				changed := c
				x.set(&changed)
				may(t, false, changed)
			}
		}
		// A list without elements is none.
		empty := c
		if len(c.Scripts) == 0 {
			empty.Scripts = []uint8{}
		}
		if len(c.Ports) == 0 {
			empty.Ports = make([]api.Ports, 0, 5)
		}
		may(t, true, empty)
	}
}

func TestP16_2MayHosts(t *testing.T) {
	for _, kind := range []uint8{api.CondHost, api.CondUnder, api.CondLike} {
		host := kind == api.CondHost
		of := func(h api.Host) api.Cond { return api.Cond{Kind: kind, Host: h} }
		may(t, true, of(domainOf("a")), of(domainOf("a.b")), of(domainOf("xn--bcher-kva.de")), of(domainOf("-")), of(domainOf("_")), of(domainOf("allow")), of(domainOf(nameOf(253))), of(domainOf(long("a", 63))))
		may(t, host, of(fourOf(0)), of(fourOf(0xFFFFFFFF)), of(sixOf()), of(sixOf(1, 2, 3, 4, 5, 6, 7, 8)))
		may(t, false,
			of(api.Host{}), of(domainOf("")), of(domainOf("A")), of(domainOf("a.")), of(domainOf("a..b")), of(domainOf(".")), of(domainOf(".a")), of(domainOf("b\u00FCcher.de")), of(domainOf("%61")), of(domainOf("a b")), of(domainOf("a,b")), of(domainOf("!a")), of(domainOf("a\"")), of(domainOf("a#")), of(domainOf("\xff")), of(domainOf("a\n")), of(domainOf("1.2.3.4")), of(domainOf("1")), of(domainOf("[::1]")), of(domainOf("xn--a")), of(domainOf(nameOf(254))), of(domainOf(long("a", 64))), of(domainOf(long("a.", 5000))),
			of(api.Host{Kind: api.Opaque, Name: "a"}), of(api.Host{Kind: 5, Name: "a"}), of(api.Host{Kind: 255}), of(api.Host{Name: "a"}), of(api.Host{Kind: api.Opaque}),
			of(api.Host{Kind: api.Domain, Name: "a", Four: 1}), of(api.Host{Kind: api.Domain, Name: "a", Six: [8]uint16{1}}), of(api.Host{Kind: api.Four, Name: "a"}), of(api.Host{Kind: api.Four, Six: [8]uint16{1}}), of(api.Host{Kind: api.Six, Four: 1}), of(api.Host{Kind: api.Six, Name: "[::]"}))
	}
}

func TestP16_2MayNets(t *testing.T) {
	may(t, true, netOf(fourOf(0), 0), netOf(fourOf(0), 32), netOf(fourOf(0x80000000), 1), netOf(fourOf(0x01020304), 30), netOf(fourOf(0x01020304), 32), netOf(fourOf(0xFFFFFFFF), 32), netOf(fourOf(0xFFFFFFFE), 31),
		netOf(sixOf(), 0), netOf(sixOf(), 33), netOf(sixOf(), 128), netOf(sixOf(0x8000), 1), netOf(sixOf(1), 16), netOf(sixOf(1, 2, 3, 4, 5, 6, 7, 8), 125), netOf(sixOf(1, 2, 3, 4, 5, 6, 7, 8), 128), netOf(sixOf(0, 0, 0, 0, 0, 0xFFFF, 0x102, 0x304), 126))
	may(t, false, netOf(fourOf(0), 33), netOf(fourOf(0), 64), netOf(fourOf(0), 128), netOf(fourOf(0), 255), netOf(fourOf(1), 31), netOf(fourOf(1), 0), netOf(fourOf(0x01020304), 29), netOf(fourOf(0x80000000), 0), netOf(fourOf(0xFFFFFFFF), 31), netOf(fourOf(1), 33),
		netOf(sixOf(), 129), netOf(sixOf(), 130), netOf(sixOf(), 255), netOf(sixOf(1), 15), netOf(sixOf(1, 2, 3, 4, 5, 6, 7, 8), 124), netOf(sixOf(0x8000), 0), netOf(sixOf(0, 1), 16), netOf(sixOf(0, 0, 0, 0, 0, 0, 0, 1), 127), netOf(sixOf(0, 0, 0, 0, 0, 0, 0, 1), 129),
		netOf(api.Host{}, 0), netOf(domainOf("a"), 0), netOf(domainOf("a"), 8), netOf(api.Host{Kind: api.Opaque, Name: "a"}, 0), netOf(api.Host{Kind: 77}, 0), netOf(api.Host{Kind: api.Four, Name: "a"}, 0), netOf(api.Host{Kind: api.Four, Six: [8]uint16{1}}, 0), netOf(api.Host{Kind: api.Six, Four: 1}, 0), netOf(api.Host{Kind: api.Six, Name: "[::]"}, 0), netOf(api.Host{Kind: api.Four, Name: "0.0.0.0"}, 32))
}

func TestP16_2MayLists(t *testing.T) {
	may(t, true, scriptsOf(2), scriptsOf(11), scriptsOf(2, 11), scriptsOf(2, 3, 4, 5, 6, 7, 8, 9, 10, 11), scriptsOf(3, 5, 7))
	may(t, false, scriptsOf(), scriptsOf([]uint8{}...), scriptsOf(0), scriptsOf(1), scriptsOf(12), scriptsOf(255), scriptsOf(0, 2), scriptsOf(1, 2), scriptsOf(11, 12), scriptsOf(2, 2), scriptsOf(3, 2), scriptsOf(2, 3, 3), scriptsOf(2, 4, 3), scriptsOf(11, 2), scriptsOf(2, 3, 4, 5, 6, 7, 8, 9, 10, 11, 11, 11, 11, 11, 11, 11), scriptsOf(2, 3, 4, 5, 6, 7, 8, 9, 10, 11, 12, 13, 14, 15, 16, 17, 18))
	full := slices.Repeat([]api.Ports{port(9)}, 16)
	may(t, true, portsOf(port(1)), portsOf(port(65535)), portsOf(api.Ports{From: 1, To: 65535}), portsOf(port(2), port(1)), portsOf(port(1), port(1)), portsOf(full...), portsOf(full[:15]...))
	may(t, false, portsOf(), portsOf([]api.Ports{}...), portsOf(port(0)), portsOf(api.Ports{From: 0, To: 1}), portsOf(api.Ports{From: 0, To: 65535}), portsOf(api.Ports{From: 2, To: 1}), portsOf(api.Ports{From: 1, To: 0}), portsOf(api.Ports{From: 65535, To: 65534}), portsOf(port(1), port(0)), portsOf(port(0), port(1)), portsOf(append(slices.Clone(full), port(9))...), portsOf(append(slices.Clone(full[:15]), port(0))...), portsOf(slices.Repeat(full, 100)...))
	for n := range 256 {
		may(t, n >= 2 && n <= 11, scriptsOf(uint8(n)))
		may(t, n >= 1 && n <= 5, levelAt(uint8(n)))
	}
}

func TestP16_2MayRules(t *testing.T) {
	for n := range 20 {
		for _, r := range []api.Rule{allows(slices.Repeat(conds(anyOf()), n)...), denies(slices.Repeat(conds(not(levelAt(1))), n)...)} {
			if got := May(r); got != (n >= 1 && n <= 8) {
				t.Errorf("May of %d conditions: %v", n, got)
			}
			told(t, []api.Rule{r})
		}
	}
	for i := range 8 {
		l := slices.Repeat(conds(anyOf()), 8)
		l[i].Level = 1
		if May(allows(l...)) || May(denies(l...)) {
			t.Errorf("condition %d of 8 may not be", i)
		}
	}
	if May(api.Rule{}) || May(api.Rule{Allow: true}) || May(allows([]api.Cond{}...)) || May(allows(slices.Repeat(conds(anyOf()), 1000)...)) {
		t.Error("May of no condition, or of too many")
	}
}

func TestP16_2Text(t *testing.T) {
	writes(t, nil, "", api.OK)
	writes(t, []api.Rule{}, "", api.OK)
	writes(t, []api.Rule{allows(anyOf())}, "allow any\n", api.OK)
	writes(t, []api.Rule{denies(not(anyOf()))}, "deny !any\n", api.OK)
	writes(t, []api.Rule{
		denies(likeOf("paypal.com"), not(hostOf(domainOf("paypal.com")))),
		allows(underOf("xn--bcher-kva.example"), portsOf(port(80), api.Ports{From: 443, To: 445})),
		allows(netOf(fourOf(0x0A000000), 8)),
	}, "deny like paypal.com !host paypal.com\nallow under xn--bcher-kva.example ports 80, 443-445\nallow net 10.0.0.0/8\n", api.OK)
	for want, c := range map[string]api.Cond{
		"any":                           anyOf(),
		"host a.b":                      hostOf(domainOf("a.b")),
		"host allow":                    hostOf(domainOf("allow")),
		"host 127.0.0.1":                hostOf(fourOf(0x7F000001)),
		"host [::1]":                    hostOf(sixOf(0, 0, 0, 0, 0, 0, 0, 1)),
		"host [::ffff:102:304]":         hostOf(sixOf(0, 0, 0, 0, 0, 0xFFFF, 0x102, 0x304)),
		"under xn--tda":                 underOf("xn--tda"),
		"like -":                        likeOf("-"),
		"net 0.0.0.0/0":                 netOf(fourOf(0), 0),
		"net 1.2.3.4/32":                netOf(fourOf(0x01020304), 32),
		"net [::]/0":                    netOf(sixOf(), 0),
		"net [fe80::]/10":               netOf(sixOf(0xFE80), 10),
		"net [1:2:3:4:5:6:7:8]/128":     netOf(sixOf(1, 2, 3, 4, 5, 6, 7, 8), 128),
		"scripts Deseret":               scriptsOf(11),
		"scripts Latin, Han":            scriptsOf(2, 10),
		"level ascii":                   levelAt(1),
		"level one":                     levelAt(2),
		"level high":                    levelAt(3),
		"level middle":                  levelAt(4),
		"level any":                     levelAt(5),
		"ports 1":                       portsOf(port(1)),
		"ports 65535, 1-65535, 80, 5-6": portsOf(port(65535), api.Ports{From: 1, To: 65535}, port(80), api.Ports{From: 5, To: 6}),
		"scripts Latin, Greek, Cyrillic, Hebrew, Arabic, Devanagari, Hiragana, Katakana, Han, Deseret": scriptsOf(2, 3, 4, 5, 6, 7, 8, 9, 10, 11),
	} {
		writes(t, []api.Rule{allows(c)}, "allow "+want+"\n", api.OK)
		writes(t, []api.Rule{denies(not(c), c)}, "deny !"+want+" "+want+"\n", api.OK)
		writes(t, []api.Rule{allows(c), denies(anyOf(), not(c))}, "allow "+want+"\ndeny any !"+want+"\n", api.OK)
	}
}

// No domain that layers 3 and 7 let through today has a sign that ends a word; a name that has one is written in quotes.
func TestP16_2NamesAsTexts(t *testing.T) {
	for _, s := range []string{"a!b", "a,b", "a\"b", "a b", "#", "", "a\tb", "\u0001"} {
		if got := name(s); got != (api.Token{Kind: api.TokText, Text: s}) {
			t.Errorf("name(%q): %v", s, got)
		}
		writes(t, []api.Rule{allows(hostOf(domainOf(s)))}, "", api.ErrArg)
		writes(t, []api.Rule{allows(underOf(s))}, "", api.ErrArg)
		writes(t, []api.Rule{allows(likeOf(s))}, "", api.ErrArg)
	}
	for _, s := range []string{"a", "a.b", "-", `a\b`, "a'b", "[::1]", "1.2.3.4", "\u00FC", "a{b}", "allow"} {
		if got := name(s); got != (api.Token{Kind: api.TokWord, Text: s}) {
			t.Errorf("name(%q): %v", s, got)
		}
	}
}

func TestP16_2Many(t *testing.T) {
	for _, n := range []int{1, 255, 256, 257, 258, 1000} {
		l := slices.Repeat([]api.Rule{denies(anyOf())}, n)
		if n > 256 {
			writes(t, l, "", api.ErrFull)
			l[0].Conds = nil
			writes(t, l, "", api.ErrFull)
			writes(t, make([]api.Rule, n), "", api.ErrFull)
			writes(t, slices.Repeat([]api.Rule{allows(slices.Repeat(conds(hostOf(domainOf(nameOf(253)))), 8)...)}, n), "", api.ErrFull)
			continue
		}
		writes(t, l, strings.Repeat("deny any\n", n), api.OK)
		for _, i := range []int{0, n / 2, n - 1} {
			wrong := slices.Clone(l)
			wrong[i] = api.Rule{}
			writes(t, wrong, "", api.ErrArg)
			wrong[i] = allows(slices.Repeat(conds(anyOf()), 9)...)
			writes(t, wrong, "", api.ErrArg)
			wrong[i] = allows(anyOf(), levelAt(6))
			writes(t, wrong, "", api.ErrArg)
		}
	}
}

func TestP16_2Long(t *testing.T) {
	// 256 lines of 256 bytes: allow host, a blank, 244 bytes of a name, and what ends the line.
	l := slices.Repeat([]api.Rule{allows(hostOf(domainOf(nameOf(244))))}, 256)
	want := strings.Repeat("allow host "+nameOf(244)+"\n", 256)
	if len(want) != api.MaxText {
		t.Fatalf("%d bytes", len(want))
	}
	writes(t, l, want, api.OK)
	parsed(t, want, l, api.Fault{})
	for _, i := range []int{0, 100, 255} {
		longer := slices.Clone(l)
		longer[i] = allows(hostOf(domainOf(nameOf(245))))
		writes(t, longer, "", api.ErrLong)
		longer[i] = allows(not(hostOf(domainOf(nameOf(244)))))
		writes(t, longer, "", api.ErrLong)
		longer[i] = denies(hostOf(domainOf(nameOf(245)))) // one byte less in its word
		writes(t, longer, want[:256*i]+"deny host "+nameOf(245)+"\n"+want[256*(i+1):], api.OK)
		longer[(i+1)%256] = allows(hostOf(domainOf(nameOf(245))))
		writes(t, longer, "", api.ErrLong)
		longer[i] = api.Rule{}
		writes(t, longer, "", api.ErrArg)
	}
	eight := allows(slices.Repeat(conds(hostOf(domainOf(nameOf(253)))), 8)...)
	writes(t, slices.Repeat([]api.Rule{eight}, 256), "", api.ErrLong)
	writes(t, append(slices.Repeat([]api.Rule{eight}, 255), api.Rule{}), "", api.ErrArg)
	// What is read from a text of MaxText bytes may be longer, written out.
	text := strings.Repeat("deny ports 1,2,3,4,5,6,7,8,9,10,11,12,13,14,15,16 ports 1,2,3,4,5,6,7,8,9,10,11,12,13,14,15,16 ports 1,2,3,4,5,6,7,8,9,10,11,12,13,14,15,16 ports 1,2,3,4,5,6,7,8,9,10,11,12,13,14,15,16 ports 1,2,3,4,5,6\n", 256)
	rules, f := Parse(text)
	if f.Err != api.OK || len(rules) != 256 {
		t.Fatalf("%d rules, %v", len(rules), f)
	}
	writes(t, rules, "", api.ErrLong)
}

func TestP16_2ArgumentsStay(t *testing.T) {
	l := []api.Rule{
		denies(hostOf(domainOf("a")), scriptsOf(2, 3), portsOf(port(9), port(8))),
		allows(netOf(fourOf(0x0A000000), 8), not(levelAt(2)), portsOf(port(7))),
		allows(scriptsOf(3, 2)),
		allows(portsOf(port(0))),
		allows(api.Cond{Kind: api.CondLevel, Level: 1, Scripts: []uint8{9}, Ports: []api.Ports{port(4)}, Host: domainOf("x"), Bits: 3}),
	}
	before := copied(l)
	first, e := Text(l[:2])
	for _, r := range l {
		May(r)
	}
	Text(l)
	if !same(l, before) {
		t.Errorf("%+v was %+v", l, before)
	}
	kept := strings.Clone(first)
	l[0].Conds[0].Host.Name = "b"
	l[1].Conds[2].Ports[0] = port(6)
	Text(l[:2])
	if e != api.OK || first != kept || first != "deny host a scripts Latin, Greek ports 9, 8\nallow net 10.0.0.0/8 !level one ports 7\n" {
		t.Errorf("%q, %v", first, e)
	}
	name := strings.Clone("example.com")
	if s, _ := Text([]api.Rule{allows(hostOf(domainOf(name)))}); inside(s, name) || inside(name, s) {
		t.Error("Text's answer is memory of a name")
	}
}

func TestP16_3ThereAndBack(t *testing.T) {
	for seed := range uint64(2000) {
		pick := picker(seed)
		var l []api.Rule
		for range pick.IntN(5) {
			l = append(l, anyRule(pick))
		}
		s, e := Text(l)
		if e != api.OK {
			t.Errorf("Text(%+v): %v", l, e)
			continue
		}
		parsed(t, s, l, api.Fault{})
		told(t, l)
	}
}

// Text of Parse, parsed again, is the same; and its text, too.
func TestP16_3TextOfParse(t *testing.T) {
	for seed := range uint64(10000) {
		pick := picker(seed)
		text := lineOf(pick) + "\n" + lineOf(pick)
		l, f := Parse(text)
		if f.Err != api.OK {
			if len(l) != 0 {
				t.Errorf("%q: %v beside %v", text, l, f)
			}
			continue
		}
		s, e := Text(l)
		again, fault := Parse(s)
		once, more := Text(again)
		if e != api.OK || fault.Err != api.OK || more != api.OK || !same(again, l) || once != s {
			t.Errorf("%q: %q, %v, %v, %q", text, s, e, fault, once)
		}
		for _, r := range l {
			if !May(r) {
				t.Errorf("%q: %+v may not be", text, r)
			}
		}
	}
}

// Names that are mapped alike, and other ways of one rule, are the same rules.
func TestP16_3MappedAlike(t *testing.T) {
	for _, plain := range []string{"example.com", "b\u00FCcher.de", "a.b.c", "\u00E9\u00E8.x", "x-y_z.k", "s\u00E5.de"} {
		for _, kind := range []string{"host", "under", "like"} {
			line := "deny " + kind + " %s ports 80\nallow !" + kind + " %s\n"
			want, f := Parse(fmt.Sprintf(line, plain, plain))
			if f.Err != api.OK {
				t.Fatalf("%q: %v", plain, f)
			}
			ways := []string{strings.ToUpper(plain), plain + ".", wide(plain), wide(strings.ToUpper(plain)), byPercent(plain), byNumber(plain), `"` + plain + `"`, byNumber(strings.ToUpper(plain) + "."), strings.ReplaceAll(plain, ".", "\u3002"), strings.ReplaceAll(plain, ".", "\uFF0E") + "\uFF61", "\u00AD" + plain, strings.ReplaceAll(plain, "k", "\u212A"), strings.ReplaceAll(plain, "\u00FC", "u\u0308"), strings.ReplaceAll(plain, "\u00E9", "e\u0301"), strings.ReplaceAll(plain, "\u00E5", "\u212B"), want[0].Conds[0].Host.Name, strings.ToUpper(want[0].Conds[0].Host.Name) + "."}
			for i, s := range ways {
				parsed(t, fmt.Sprintf(line, s, ways[(i+1)%len(ways)]), want, api.Fault{})
			}
		}
	}
	want, _ := Parse("allow host 127.0.0.1 net 127.0.0.0/8 host [::1]")
	for _, four := range []string{"0x7f.1", "2130706433", "0177.1", "127.0.1", wide("127.0.0.1"), "127%2E1"} {
		for _, net := range []string{"0x7f.0/8", "2130706432/8", "0177.0/8", wide("127.0.0.0") + "/8"} {
			for _, six := range []string{"[0::1]", "[0:0:0:0:0:0:0:1]", "[::0001]", "[::0.0.0.1]", `"[::1]"`} {
				parsed(t, "allow host "+four+" net "+net+" host "+six, want, api.Fault{})
			}
		}
	}
}
