package judge

import (
	"fmt"
	"slices"
	"strings"
	"testing"

	"portcullis/api"
	"portcullis/canon"
	"portcullis/rule"
	"portcullis/skel"
)

// Conditions of every kind, and targets of which some fit each of them and some do not.
var (
	conds = []string{
		"any",
		"host a.b", "host b", "host paypal.com", "host 10.1.2.3", "host [::1]", "host p\u0430ypal.com", "host [::ffff:10.1.2.3]",
		"under b", "under com", "under a.b", "under p\u0430ypal.com", "under paypal.com", "under \u4E00",
		"like paypal.com", "like p\u0430ypal.com", "like m.com", "like a.b", "like \u0430", "like ll",
		"net 10.0.0.0/8", "net 10.1.2.3/32", "net 0.0.0.0/0", "net 10.1.2.0/23", "net [::]/0", "net [::1]/128", "net [fe80::]/10", "net [::ffff:0:0]/96",
		"scripts Latin", "scripts Cyrillic", "scripts Latin, Cyrillic", "scripts Greek, Hebrew, Arabic, Devanagari, Han, Deseret", "scripts Latin, Hiragana, Katakana, Han", "scripts Hebrew, Latin",
		"level ascii", "level one", "level high", "level middle", "level any",
		"ports 80", "ports 443, 80", "ports 1-79, 81-65535", "ports 1-65535", "ports 8000-8999, 80-90, 1",
	}
	targets = strings.Fields("a.b b ab x.a.b a.b.c com xcom paypal.com www.paypal.com paypa1.com p\u0430ypal.com www.p\u0430ypal.com \u0440\u0430\u0443\u0440\u0430l.com paypal.c\u043Em " +
		"m.com rn.com a \u0430 \u03B1 ll l1 11a a\u0430.com a.\u0430.com \u4E00 a.\u4E00 a\u4E00 \u3042\u30A2 a\u3042\u30A2\u4E00.jp \u3042\u0430 a\U00010428 \u05D0\u05D1 \u05D0.a \u0627\u0628 \u0915\u0937 b\u00FCcher.de - 1-_.a_ \u2603 \U0001F600.com xn--tda " +
		"10.1.2.3 10.1.2.2 10.1.3.3 10.1.4.3 10.0.0.0 11.0.0.0 9.255.255.255 0.0.0.0 255.255.255.255 [::1] [::] [::2] [fe80::1] [febf::] [fec0::] [::ffff:10.1.2.3] [::10.1.2.3] " +
		"a.b:81 a.b:443 b:8080 paypal.com:1 p\u0430ypal.com:443 10.1.2.3:443 [::1]:65535 a:79 ab:90 com:91")
)

func TestP17_1Examples(t *testing.T) {
	holdsOf(t, "under b", "a.b b", "ab")
	holdsOf(t, "like paypal.com", "paypal.com xn--pypal-4ve.com p\u0430ypal.com", "paypal.org")
	holdsOf(t, "host paypal.com", "paypal.com", "xn--pypal-4ve.com")
	holdsOf(t, "net 10.0.0.0/8", "10.1.2.3", "11.0.0.0")
	holdsOf(t, "ports 80", "10.1.2.3:80", "10.1.2.3:81")
	holdsOf(t, "level one", "a.\u0430.com", "a\u0430.com")
}

func TestP17_1Any(t *testing.T) {
	holdsOf(t, "any", strings.Join(targets, " "), "")
}

func TestP17_1Hosts(t *testing.T) {
	holdsOf(t, "host a.b", "a.b a.b:443 A.B. a%2Eb \uFF41\u3002b", "b a aa.b a.bb x.a.b a.b.c ab a-b 1.2.3.4 [::1]")
	holdsOf(t, "host b\u00FCcher.de", "xn--bcher-kva.de BU\u0308CHER.DE", "bucher.de b\u00FCcher.d xn--bcher-kva")
	holdsOf(t, "host 1.2.3.4", "1.2.3.4 1.2.3.4:1 0x1020304 1.2.772", "1.2.3.5 0.2.3.4 129.2.3.4 [::1.2.3.4] [::ffff:1.2.3.4] [102:304::] a 1.2.3.4.x")
	holdsOf(t, "host 0.0.0.0", "0.0.0.0 0", "[::] 0.0.0.1 128.0.0.0")
	holdsOf(t, "host [::]", "[::] [0:0::0]:9", "0.0.0.0 [::1] [8000::] [0:0:0:1::]")
	holdsOf(t, "host [1:2:3:4:5:6:7:8]", "[1:2:3:4:5:6:7:8]", "[0:2:3:4:5:6:7:8] [1:3:3:4:5:6:7:8] [1:2:2:4:5:6:7:8] [1:2:3:5:5:6:7:8] [1:2:3:4:4:6:7:8] [1:2:3:4:5:7:7:8] [1:2:3:4:5:6:6:8] [1:2:3:4:5:6:7:9]")
}

func TestP17_1Under(t *testing.T) {
	holdsOf(t, "under b", "b a.b x.a.b b.b a.b:9 xn--tda.b", "a ab a-b b.a bb xb a.xb b.b.a ba 1.2.3.4 [::b]")
	holdsOf(t, "under a.b", "a.b x.a.b a.b.a.b y.x.a.b", "b x.b xa.b a-a.b ab a.b.c a b.a x.aa.b")
	holdsOf(t, "under com", "com x.com com.com", "xcom com.x c co om x.xcom com.com.x")
	holdsOf(t, "under b\u00FCcher.de", "b\u00FCcher.de a.B\u00DCCHER.DE. x.xn--bcher-kva.de", "de bucher.de xb\u00FCcher.de cher-kva.de")
	holdsOf(t, "under kva", "kva x.kva", "xn--bcher-kva b\u00FCcher")
	holdsOf(t, "under x.a", "x.a "+long("a.", 250)+"x.a", "a a.a 10.0.0.1")
	name := long("a", 63) + "." + long("b", 63) + "." + long("c", 63) + "." + long("d", 61)
	holdsOf(t, "under "+name, name, name[1:]+" "+name[2:]+" d."+name[64:]+" "+name[64:])
	holdsOf(t, "under "+name[64:], name+" "+name[64:]+" x."+name[64:], name[65:]+" x"+name[65:])
}

// Every end of a name, cut anywhere: it is below just those that are cut at a dot, and itself.
func TestP17_1UnderEveryEnd(t *testing.T) {
	name := "ab.c-d.xn--tda.efg.ab.c"
	for i := range name {
		if name[i] == '.' {
			continue
		}
		c := api.Cond{Kind: api.CondUnder, Host: domainOf(name[i:])}
		if !rule.May(api.Rule{Conds: []api.Cond{c}}) {
			continue
		}
		asked(t, c, aim(domainOf(name), 80), i == 0 || name[i-1] == '.')
		asked(t, c, aim(domainOf(name[i:]), 80), true)
		asked(t, api.Cond{Kind: api.CondUnder, Host: domainOf(name)}, aim(domainOf(name[i:]), 80), i == 0)
	}
}

func TestP17_1Like(t *testing.T) {
	holdsOf(t, "like paypal.com", "paypal.com PAYPAL.COM p\u0430ypal.com payp\u0430l.com p\u0430yp\u0430l.com \u0440ayp\u03B1l.com pa\u0443pal.com paypa1.com \u03C1\u0430\u0443\u03C1\u03B1l.\u0441\u043Em paypal.c0m paypal.corn paypal.\u0441\u03BFrn paypal.com:443 p\u0430ypal.com:1", "paypal.co paypal.con www.paypal.com aypal.com paypal-com p.aypal.com paypal p\u00E1ypal.com paypai.com 1.2.3.4 [::1]")
	holdsOf(t, "like p\u0430ypal.com", "paypal.com p\u0430ypal.com paypa1.com", "paypal.de xn--pypal-4ve.corn.x")
	holdsOf(t, "like m", "m rn", "n r nr mm rnn r.n")
	holdsOf(t, "like rnrn.x", "mm.x mrn.x rnm.x rnrn.\u0445", "m.x mrm.x rnrnrn.x")
	holdsOf(t, "like o.x", "o.x 0.x \u043E.x \u03BF.\u0445 o.x:1", "o oo.x ox o.xx a.x \u00F6.x 0.0.0.0")
}

func TestP17_1Nets(t *testing.T) {
	holdsOf(t, "net 10.0.0.0/8", "10.0.0.0 10.255.255.255 10.128.0.0 10.1.2.3:443", "11.0.0.0 9.255.255.255 138.0.0.0 8.0.0.0 0.0.0.0 [a00::] [::10.0.0.0] [::ffff:10.0.0.0] a 10.a")
	holdsOf(t, "net 10.1.2.0/23", "10.1.2.0 10.1.3.255", "10.1.4.0 10.1.1.255 10.1.0.0 10.0.2.0 11.1.2.0")
	holdsOf(t, "net 1.2.3.4/32", "1.2.3.4", "1.2.3.5 1.2.3.6 129.2.3.4 0.2.3.4")
	holdsOf(t, "net 1.2.3.4/31", "1.2.3.4 1.2.3.5", "1.2.3.6 1.2.3.3 1.2.3.0")
	holdsOf(t, "net 0.0.0.0/0", "0.0.0.0 255.255.255.255 128.0.0.1", "[::] [::1] [ffff::] a xn--tda")
	holdsOf(t, "net 128.0.0.0/1", "128.0.0.0 255.255.255.255", "127.255.255.255 0.0.0.0")
	holdsOf(t, "net [::]/0", "[::] [::1] [ffff:ffff:ffff:ffff:ffff:ffff:ffff:ffff] [::ffff:1.2.3.4]", "0.0.0.0 255.255.255.255 a")
	holdsOf(t, "net [fe80::]/10", "[fe80::] [febf:ffff::1] [fea0::]", "[fec0::] [fe7f::] [7e80::] [::fe80] 254.128.0.0")
	holdsOf(t, "net [1:2:3:4::]/64", "[1:2:3:4::] [1:2:3:4:5:6:7:8] [1:2:3:4:ffff::]", "[1:2:3:5::] [1:2:3:8004::] [1:2:2:4::] [0:2:3:4::] [8001:2:3:4::]")
	holdsOf(t, "net [1:2:3:4:5:6:7:8]/128", "[1:2:3:4:5:6:7:8]", "[1:2:3:4:5:6:7:9] [1:2:3:4:5:6:8007:8] [8001:2:3:4:5:6:7:8]")
	holdsOf(t, "net [1:2:3:4:5:6:7:8]/126", "[1:2:3:4:5:6:7:8] [1:2:3:4:5:6:7:b]", "[1:2:3:4:5:6:7:c] [1:2:3:4:5:6:7:7]")
	holdsOf(t, "net [::ffff:0:0]/96", "[::ffff:1.2.3.4] [::ffff:0:0]", "1.2.3.4 [::fffe:1.2.3.4] [::1:ffff:0:0] [::]")
}

// Every length, and every bit: the last one that counts, the first one that does not, and all others.
func TestP17_1NetsOfEveryLength(t *testing.T) {
	held := func(h api.Host) {
		for bits := range len(bitsOf(h)) + 1 {
			c := netOf(head(h, bits), bits)
			if !Holds(c, aim(h, 80)) {
				t.Errorf("not Holds(%+v, %+v)", c, h)
			}
			for set := range len(bitsOf(h)) {
				if x := aim(flipped(h, set), 80); Holds(c, x) != (set >= bits) || Holds(not(c), x) != (set < bits) {
					t.Errorf("Holds(%+v, %+v): not %v", c, x, set >= bits)
				}
			}
		}
	}
	for _, four := range []uint32{0, 0xFFFFFFFF, 0x0A010203, 0xAAAAAAAA} {
		held(fourOf(four))
	}
	held(api.Host{Kind: api.Six})
	held(api.Host{Kind: api.Six, Six: [8]uint16{0xFE80, 0xFFFF, 0x8001, 0, 0xAAAA, 0x5555, 7, 0xFFFF}})
}

// A Four and a Six are no one's net of the other kind, even of no bits, or if all that count are alike.
func TestP17_1NetsOfTheOtherKind(t *testing.T) {
	for _, a := range []uint32{0, 1, 0x0A000001, 0xFFFFFFFF} {
		low, high := uint16(a), uint16(a>>16)
		for _, six := range [][8]uint16{{}, {high, low}, {0, 0, 0, 0, 0, 0, high, low}, {0, 0, 0, 0, 0, 0xFFFF, high, low}} {
			h := api.Host{Kind: api.Six, Six: six}
			for bits := range 33 {
				asked(t, netOf(head(fourOf(a), bits), bits), aim(h, 80), false)
				asked(t, netOf(head(h, bits), bits), aim(fourOf(a), 80), false)
			}
			for _, bits := range []int{96, 127, 128} {
				asked(t, netOf(head(h, bits), bits), aim(fourOf(a), 80), false)
			}
		}
	}
}

func TestP17_1Scripts(t *testing.T) {
	holdsOf(t, "scripts Latin", "a a.b b\u00FCcher.de - 1.2a 1-_.x_ \u2603 \U0001F600.a a:443 a1", "\u0430 a\u0430 a.\u0430 \u0430.a a.b.\u0430.c.d \u03B1 \u4E00 \u05D0 a.\u05D0 1.2.3.4 [::1]")
	holdsOf(t, "scripts Cyrillic", "\u0430 \u0430.\u0431 \u04301.\u0431 1-_ - \u0430-", "a a\u0430 \u0430.a \u0430.com 10.0.0.1 [::]")
	holdsOf(t, "scripts Latin, Cyrillic", "a \u0430 a\u0430 a.\u0430 \u0430.a a\u0430.a\u0430 a\u0430.com", "\u03B1 a\u03B1 a.\u03B1 a.\u0430.\u03B1 \u4E00 \u03B1.a.\u0430 0.0.0.0")
	holdsOf(t, "scripts Hiragana, Katakana, Han", "\u3042 \u3042\u30A2\u4E00 \u3042.\u30A2.\u4E00 \u30FC _1", "a\u3042 \u3042.a \u3042.\u4E00.jp a")
	holdsOf(t, "scripts Latin, Hiragana, Katakana, Han", "a\u3042\u30A2\u4E00 \u3042\u30A2\u4E00.jp jp \u30A2\u30FC", "\u3042.\u0430 \u0430 \u3042\u4E00\u0430.jp")
	holdsOf(t, "scripts Deseret", "\U00010428 \U00010400\U00010428", "a\U00010428 a \U00010428.a")
	holdsOf(t, "scripts Hebrew, Arabic", "\u05D0 \u0627 \u05D0.\u0627", "a \u05D0.a \u0915")
	holdsOf(t, "scripts Devanagari", "\u0915\u0937 \u0915\u094D\u200D\u0937 \u0915.\u0937", "\u0915.a a")
	holdsOf(t, "scripts Greek", "\u03B1 \u03B1\u03C2 \u03B1\u0301", "\u03B1.a \u0430 a")
	holdsOf(t, "scripts Latin, Greek, Cyrillic, Hebrew, Arabic, Devanagari, Hiragana, Katakana, Han, Deseret", "a \u0430\u03B1a \u05D0 \u0627 \u0915 \u3042\u30A2\u4E00 \U00010428 -", "1.2.3.4 [::1]")
}

// letters has one of each script's letters, by the scripts' numbers.
func letters() map[uint8]string {
	return map[uint8]string{2: "a", 3: "\u03B2", 4: "\u0431", 5: "\u05D0", 6: "\u0628", 7: "\u0915", 8: "\u3042", 9: "\u30A2", 10: "\u4E00", 11: "\U00010428"}
}

// Each script against each, in each label of several.
func TestP17_1ScriptsOfEachLabel(t *testing.T) {
	for script := range letters() {
		c := api.Cond{Kind: api.CondScripts, Scripts: []uint8{script}}
		for its, letter := range letters() {
			own := letters()[script]
			for _, s := range []string{letter, own + "." + letter, letter + "." + own, own + "." + letter + "." + own, own + "." + own + "." + letter + "." + own, own + own + "." + letter} {
				asked(t, c, to(t, s), its == script)
			}
			both := []uint8{min(script, its), max(script, its)}
			if its != script {
				asked(t, api.Cond{Kind: api.CondScripts, Scripts: both}, to(t, own+"."+letter), true)
				asked(t, api.Cond{Kind: api.CondScripts, Scripts: both}, to(t, letter), true)
			}
			if script != api.Latin && its != api.Latin {
				asked(t, c, to(t, own+"."+letter+".a"), false)
			}
		}
	}
}

func TestP17_1Levels(t *testing.T) {
	low := "a a.b - 1-_.x 0x.a"
	single := "\u0430 a.\u0430 \u0430.a.\u03B1.\u4E00 b\u00FCcher b\u00FCcher.de \u2603 \u05D0.a a.\u0430.com \u30FC"
	high := "a\u3042\u30A2\u4E00 \u3042\u30A2 a\u4E00.de x.a\u4E00 \u0430.a\u3042.b"
	middle := "a\U00010428 a\u0915 \u3042\u30A2.a\u0915 a\U00010428.\u0430.x"
	all := "a\u0430 a\u0430.com com.a\u0430 x.a\u03B1.y \u0430\u03B1 \u3042\u0430 a\u3042\u0430 a.a\u0915.a\u3042.a\u0430"
	addresses := "1.2.3.4 [::1] 0.0.0.0 [::]"
	rows := []string{low, single, high, middle, all}
	for i, word := range []string{"ascii", "one", "high", "middle", "any"} {
		holdsOf(t, "level "+word, strings.Join(rows[:i+1], " "), strings.Join(rows[i+1:], " ")+" "+addresses)
	}
}

// A label of each level ahead of, between and behind labels of each other one: the greatest counts.
func TestP17_1LevelsOfEachLabel(t *testing.T) {
	labels := []string{1: "a", 2: "\u0430", 3: "a\u4E00", 4: "a\u0915", 5: "a\u0430"}
	for first := 1; first <= 5; first++ {
		for second := 1; second <= 5; second++ {
			for level := 1; level <= 5; level++ {
				c := api.Cond{Kind: api.CondLevel, Level: uint8(level)}
				asked(t, c, to(t, labels[first]+"."+labels[second]), max(first, second) <= level)
				asked(t, c, to(t, "b."+labels[first]+"."+labels[second]+".c"), max(first, second) <= level)
			}
		}
	}
}

func TestP17_1Ports(t *testing.T) {
	holdsOf(t, "ports 80", "a a:80 1.2.3.4:80 [::1]:80", "a:79 a:81 a:1 a:443 a:65535 a:8080 1.2.3.4:81 [::1]:336")
	holdsOf(t, "ports 80-90", "a:80 a:81 a:85 a:89 a:90", "a:79 a:91 a:1 a:65535")
	holdsOf(t, "ports 1", "a:1", "a:2 a:65535 a:256 a:257")
	holdsOf(t, "ports 65535", "a:65535", "a:1 a:65534 a:255")
	holdsOf(t, "ports 1-65535", "a:1 a:65535 a:32768 a", "")
	holdsOf(t, "ports 443, 80", "a:443 a:80", "a:442 a:444 a:79 a:81 a:100")
	holdsOf(t, "ports 9-10, 5-6, 9-9", "a:9 a:10 a:5 a:6", "a:4 a:7 a:8 a:11")
	holdsOf(t, "ports 1,2,3,4,5,6,7,8,9,10,11,12,13,14,15,20-30", "a:1 a:8 a:15 a:20 a:30 a:25", "a:16 a:19 a:31")
}

func TestP17_1EveryPort(t *testing.T) {
	for _, line := range []string{"ports 80", "ports 256-511", "ports 1-9, 65530-65535, 32768", "ports 300, 200-300, 100", "ports 1-65535", "ports 1,3,5,7,9,11,13,15,17,19,21,23,25,27,29,60000-65535"} {
		c := cond(t, line)
		in := map[uint16]bool{}
		for _, p := range c.Ports {
			for n := int(p.From); n <= int(p.To); n++ {
				in[uint16(n)] = true
			}
		}
		for n := uint16(1); n != 0; n++ {
			if got := Holds(c, aim(fourOf(1), n)); got != in[n] {
				t.Errorf("Holds(%s, port %d): %v", line, n, got)
			}
		}
	}
}

// What asks for a domain holds of no address, and with a ! of each.
func TestP17_1AddressesAreNoDomains(t *testing.T) {
	for _, line := range []string{"under a", "under 1.2.3.a", "like a", "like -", "scripts Latin", "scripts Latin, Han", "level ascii", "level any"} {
		holdsOf(t, line, "", "0.0.0.0 1.2.3.4 255.255.255.255 [::] [::1] [a::] [::ffff:1.2.3.4]")
	}
}

func TestP17_1EveryConditionOfEveryTarget(t *testing.T) {
	for _, line := range conds {
		for _, s := range targets {
			c, x := cond(t, line), to(t, s)
			asked(t, c, x, wordsAsk[c.Kind](c, x))
		}
	}
}

// Each condition that the tests take holds of some of these targets, and does not of others (but any), so that they tell something.
func TestP17_1PoolsTellSomething(t *testing.T) {
	for _, line := range conds {
		many := 0
		for _, s := range targets {
			if Holds(cond(t, line), to(t, s)) {
				many++
			}
		}
		if many == 0 || many == len(targets) && line != "any" && line != "ports 1-65535" {
			t.Errorf("%q: %d of %d", line, many, len(targets))
		}
	}
}

// wrongConds may not be, of each kind.
func wrongConds() []api.Cond {
	name, four, six := domainOf("a.b"), fourOf(0x0A000000), api.Host{Kind: api.Six}
	ports, scripts := []api.Ports{{From: 1, To: 65535}}, []uint8{2, 3, 4}
	l := []api.Cond{{}, {Kind: 9}, {Kind: 255}, {Kind: 128, Host: name}}
	for kind := uint8(0); kind < 9; kind++ { // with more than any kind has
		l = append(l, api.Cond{Kind: kind, Host: name, Bits: 1, Scripts: scripts, Level: 5, Ports: ports})
	}
	for _, h := range wrongHosts() {
		l = append(l, api.Cond{Kind: api.CondHost, Host: h}, api.Cond{Kind: api.CondUnder, Host: h}, api.Cond{Kind: api.CondLike, Host: h}, netOf(h, 0))
	}
	return append(l,
		api.Cond{Kind: api.CondAny, Host: name}, api.Cond{Kind: api.CondAny, Bits: 1}, api.Cond{Kind: api.CondAny, Scripts: scripts}, api.Cond{Kind: api.CondAny, Level: 5}, api.Cond{Kind: api.CondAny, Ports: ports},
		api.Cond{Kind: api.CondHost, Host: name, Ports: ports}, api.Cond{Kind: api.CondHost, Host: four, Bits: 8},
		api.Cond{Kind: api.CondUnder, Host: four}, api.Cond{Kind: api.CondUnder, Host: six}, api.Cond{Kind: api.CondUnder, Host: name, Level: 1},
		api.Cond{Kind: api.CondLike, Host: four}, api.Cond{Kind: api.CondLike, Host: six}, api.Cond{Kind: api.CondLike, Host: name, Scripts: scripts},
		netOf(name, 0), netOf(four, 33), netOf(four, 6), netOf(fourOf(1), 31), netOf(fourOf(1), 0), netOf(six, 129), netOf(six, 255), netOf(api.Host{Kind: api.Six, Six: [8]uint16{7: 1}}, 127), api.Cond{Kind: api.CondNet, Host: four, Bits: 8, Level: 1},
		api.Cond{Kind: api.CondScripts}, api.Cond{Kind: api.CondScripts, Scripts: []uint8{0}}, api.Cond{Kind: api.CondScripts, Scripts: []uint8{1, 2}}, api.Cond{Kind: api.CondScripts, Scripts: []uint8{2, 12}}, api.Cond{Kind: api.CondScripts, Scripts: []uint8{3, 2}}, api.Cond{Kind: api.CondScripts, Scripts: []uint8{2, 2}}, api.Cond{Kind: api.CondScripts, Scripts: make([]uint8, 17)}, api.Cond{Kind: api.CondScripts, Scripts: scripts, Host: name},
		api.Cond{Kind: api.CondLevel}, api.Cond{Kind: api.CondLevel, Level: 6}, api.Cond{Kind: api.CondLevel, Level: 255}, api.Cond{Kind: api.CondLevel, Level: 5, Ports: ports},
		api.Cond{Kind: api.CondPorts}, api.Cond{Kind: api.CondPorts, Ports: []api.Ports{{From: 0, To: 80}}}, api.Cond{Kind: api.CondPorts, Ports: []api.Ports{{From: 81, To: 80}}}, api.Cond{Kind: api.CondPorts, Ports: []api.Ports{{From: 80, To: 80}, {}}}, api.Cond{Kind: api.CondPorts, Ports: slices.Repeat(ports, 17)}, api.Cond{Kind: api.CondPorts, Ports: ports, Bits: 1},
	)
}

// wrongHosts are none of a target's.
func wrongHosts() []api.Host {
	return []api.Host{
		{}, {Name: "a"}, {Four: 1}, {Kind: 4, Name: "a.b"}, {Kind: 4}, {Kind: 5, Name: "a"}, {Kind: 255},
		domainOf(""), domainOf("."), domainOf("a."), domainOf("a.b."), domainOf("a..b"), domainOf(".a"), domainOf("A"), domainOf("a.B"), domainOf("b\u00FCcher"), domainOf("a b"), domainOf("a:80"), domainOf("a/b"), domainOf("%61"), domainOf("xn--a"), domainOf("xn--"), domainOf("XN--TDA"), domainOf("1.2.3.4"), domainOf("0x7f.1"), domainOf("a.1"), domainOf("[::1]"), domainOf("a\xff"), domainOf("a\x00"),
		domainOf(long("a", 64)), domainOf("b." + long("a", 64)), domainOf(long("a.", 254) + "bc"), domainOf(long("a.", 5000) + "b"),
		{Kind: 1, Name: "a", Four: 1}, {Kind: 1, Name: "a", Six: [8]uint16{7: 1}},
		{Kind: 2, Four: 1, Name: "a"}, {Kind: 2, Six: [8]uint16{1}}, {Kind: 3, Four: 1}, {Kind: 3, Name: "::"},
	}
}

func TestP17_1ConditionsThatMayNotBe(t *testing.T) {
	for _, c := range wrongConds() {
		for _, s := range []string{"a.b", "10.0.0.0", "[::]", "\u0430\u03B1:443"} {
			neither(t, c, to(t, s))
		}
	}
}

func TestP17_1TargetsThatMayNotBe(t *testing.T) {
	for _, line := range conds {
		c := cond(t, line)
		for _, h := range wrongHosts() {
			neither(t, c, aim(h, 80))
			neither(t, c, aim(h, 0))
		}
		for _, s := range []string{"a.b", "10.1.2.3", "[::1]", "paypal.com"} {
			neither(t, c, aim(to(t, s).Host, 0))
		}
		// A host that may be no target is none even where the condition has it.
		neither(t, c, aim(api.Host{Kind: c.Host.Kind, Name: c.Host.Name + ".", Four: c.Host.Four, Six: c.Host.Six}, 80))
	}
}

func TestP17_2Examples(t *testing.T) {
	judged(t, "", "a.b:80", false, -1)
	judged(t, "deny under b\nallow any", "a.b:80", false, 0)
	judged(t, "deny under b\nallow any", "ab:80", true, 1)
	judged(t, "deny under b\nallow any", "b:80", false, 0)
	judged(t, "deny like paypal.com !host paypal.com\nallow any", "paypal.com:80", true, 1)
	judged(t, "deny like paypal.com !host paypal.com\nallow any", "xn--pypal-4ve.com:80", false, 0)
	judged(t, "allow net 10.0.0.0/8 ports 80", "10.1.2.3:80", true, 0)
	judged(t, "allow net 10.0.0.0/8 ports 80", "10.1.2.3:81", false, -1)
	judged(t, "allow net 10.0.0.0/8 ports 80", "11.0.0.0:80", false, -1)
	judged(t, "allow level one", "l\u0430.com:80", false, -1)
	judged(t, "allow level one", "l.\u0430.com:80", true, 0)
}

// The document's own rules.
func TestP17_2ExamplesOfTheWhole(t *testing.T) {
	lines := "deny like paypal.com !host paypal.com\nallow under example.com ports 80, 443\nallow host paypal.com"
	judged(t, lines, "EXAMPLE.com.", true, 1)
	judged(t, lines, "www.%65xample.com:8080", false, -1)
	judged(t, lines, "www.%65xample.com:443", true, 1)
	judged(t, lines, "p\u0430ypal.com:443", false, 0)
	judged(t, lines, "paypal.com:443", true, 2)
	judged(t, lines, "0x7f.1", false, -1)
}

func TestP17_2NoRules(t *testing.T) {
	for _, s := range targets {
		answers(t, nil, to(t, s), false, -1, api.OK)
		answers(t, []api.Rule{}, to(t, s), false, -1, api.OK)
	}
	for _, h := range wrongHosts() {
		answers(t, nil, aim(h, 80), false, 0, api.ErrArg)
	}
	answers(t, nil, api.Target{}, false, 0, api.ErrArg)
	answers(t, nil, aim(domainOf("a"), 0), false, 0, api.ErrArg)
}

// All conditions of a rule must hold: each of eight alone may keep it from fitting.
func TestP17_2AllConditions(t *testing.T) {
	all := rules(t, "allow any host p\u0430ypal.com under com like paypal.com !net 0.0.0.0/0 scripts Latin, Cyrillic !level middle ports 443")
	x := to(t, "p\u0430ypal.com:443")
	answers(t, all, x, true, 0, api.OK)
	byWords(t, all, x)
	for i := range 8 {
		l := append(copied(all), rules(t, "deny any")...)
		l[0].Conds[i].Not = !l[0].Conds[i].Not
		answers(t, l, x, false, 1, api.OK)
		byWords(t, l, x)
		l[0].Conds = []api.Cond{all[0].Conds[i]}
		answers(t, l, x, true, 0, api.OK)
	}
	judged(t, "allow any !any", "a", false, -1)
	judged(t, "deny ports 80 ports 80-90", "a:80", false, 0)
	judged(t, "allow host a host b", "a", false, -1)
	judged(t, "allow under a under b", "b.a", false, -1)
	judged(t, "allow ports 1-90 !ports 80", "a:80", false, -1)
	judged(t, "allow ports 1-90 !ports 80", "a:81", true, 0)
}

func TestP17_2FirstThatFits(t *testing.T) {
	judged(t, "allow host a\ndeny host a", "a", true, 0)
	judged(t, "deny host a\nallow host a", "a", false, 0)
	judged(t, "deny host b\nallow host a\ndeny host a", "a", true, 1)
	judged(t, "allow host b\ndeny host a\nallow any", "a", false, 1)
	judged(t, "allow host b\nallow host c\ndeny any", "a", false, 2)
	judged(t, "deny host b\ndeny host c\nallow any", "a", true, 2)
	judged(t, "allow host b\nallow host c", "a", false, -1)
	judged(t, "deny host b\ndeny host c", "a", false, -1)
	judged(t, "allow !host a\ndeny !any\nallow under a !host a\nallow host a", "a", true, 3)
	judged(t, "allow host a !ports 80\nallow host a ports 81\ndeny host a ports 80\nallow host a", "a", false, 2)
}

// The one that fits stands in each place of MaxRules.
func TestP17_2EachPlace(t *testing.T) {
	x := to(t, "a.b")
	most := slices.Repeat(rules(t, "allow host b"), api.MaxRules)
	answers(t, most, x, false, -1, api.OK)
	for i := range most {
		for _, verdict := range []bool{true, false} {
			l := slices.Clone(most)
			l[i] = rules(t, "deny under b")[0]
			l[i].Allow = verdict
			answers(t, l, x, verdict, i, api.OK)
			l[255] = rules(t, "allow any")[0]
			answers(t, l, x, verdict || i == 255, i, api.OK)
		}
	}
}

func TestP17_2MaxRules(t *testing.T) {
	x := to(t, "a")
	for _, line := range []string{"allow any", "deny any", "allow host b", "deny like a level one ports 80 under a host a scripts Latin !net 0.0.0.0/0 any"} {
		l := slices.Repeat(rules(t, line), api.MaxRules)
		byWords(t, l[:1], x)
		allow, which, _ := Judge(l[:1], x)
		answers(t, l, x, allow, which, api.OK)
		for _, many := range []int{api.MaxRules + 1, api.MaxRules + 2, 2 * api.MaxRules, 10000} {
			answers(t, slices.Repeat(l[:1], many), x, false, 0, api.ErrFull)
		}
	}
	// More than MaxRules is told ahead of what may not be.
	for _, l := range [][]api.Rule{make([]api.Rule, 257), append(slices.Repeat(rules(t, "allow any"), 256), api.Rule{}), append([]api.Rule{{}}, slices.Repeat(rules(t, "allow any"), 256)...)} {
		answers(t, l, x, false, 0, api.ErrFull)
		answers(t, l, api.Target{}, false, 0, api.ErrFull)
		answers(t, l, aim(x.Host, 0), false, 0, api.ErrFull)
	}
	answers(t, slices.Repeat(rules(t, "allow any"), 257), api.Target{}, false, 0, api.ErrFull)
	answers(t, slices.Repeat(rules(t, "allow any"), 256), api.Target{}, false, 0, api.ErrArg)
}

// One rule that may not be, ahead of the one that would decide, and behind it.
func TestP17_2RulesThatMayNotBe(t *testing.T) {
	x := to(t, "a.b")
	good := rules(t, "deny host b\nallow under b\ndeny any\nallow any")
	answers(t, good, x, true, 1, api.OK)
	wrong := []api.Rule{{}, {Allow: true}, {Conds: slices.Repeat(good[2].Conds, api.MaxConds+1)}}
	for _, c := range wrongConds() {
		wrong = append(wrong, api.Rule{Conds: []api.Cond{c}}, api.Rule{Allow: true, Conds: []api.Cond{not(good[2].Conds[0]), c}})
	}
	for _, r := range wrong {
		answers(t, []api.Rule{r}, x, false, 0, api.ErrArg)
		for i := range good {
			l := slices.Clone(good)
			l[i] = r
			answers(t, l, x, false, 0, api.ErrArg)
			answers(t, slices.Insert(slices.Clone(good), i, r), x, false, 0, api.ErrArg)
			answers(t, slices.Insert(slices.Clone(good), i, r), aim(fourOf(1), 1), false, 0, api.ErrArg)
		}
		answers(t, append(slices.Clone(good), r), x, false, 0, api.ErrArg)
		many := append(slices.Repeat(good[1:2], 255), r)
		answers(t, many, x, false, 0, api.ErrArg)
	}
	// Eight conditions may be.
	answers(t, []api.Rule{{Allow: true, Conds: slices.Repeat(good[2].Conds, api.MaxConds)}}, x, true, 0, api.OK)
}

func TestP17_2TargetsThatMayNotBe(t *testing.T) {
	for _, lines := range []string{"", "allow any", "deny any", "allow !any", "deny host b\nallow any\n"} {
		for _, h := range wrongHosts() {
			answers(t, rules(t, lines), aim(h, 80), false, 0, api.ErrArg)
			answers(t, append(rules(t, lines), api.Rule{}), aim(h, 80), false, 0, api.ErrArg)
		}
		for _, s := range targets {
			answers(t, rules(t, lines), aim(to(t, s).Host, 0), false, 0, api.ErrArg)
		}
	}
}

func TestP17_2ByWords(t *testing.T) {
	places := map[string]int{}
	for seed := range uint64(1000) {
		pick := picker(seed)
		l := anyRules(t, pick)
		for range 4 {
			x := to(t, one(pick, targets))
			byWords(t, l, x)
			allow, which, _ := Judge(l, x)
			places[fmt.Sprint(which, allow)]++
		}
	}
	if len(places) < 15 {
		t.Errorf("these rules decide too little: %v", places)
	}
}

func TestP17_2ArgumentsStay(t *testing.T) {
	l := rules(t, "deny like paypal.com !host paypal.com scripts Latin, Cyrillic ports 443, 80, 1-9\nallow net 10.0.0.0/8 !level one\nallow under com scripts Latin ports 9, 8\nallow any")
	before := copied(l)
	for _, s := range targets {
		x := to(t, s)
		name := strings.Clone(x.Host.Name)
		Judge(l, x)
		for _, r := range l {
			for _, c := range r.Conds {
				Holds(c, x)
			}
		}
		if x.Host.Name != name {
			t.Errorf("%q was %q", x.Host.Name, name)
		}
	}
	wrong := append(l, wrongRules()...)
	kept := copied(wrong)
	Judge(wrong, to(t, "a"))
	if fmt.Sprintf("%+v", l) != fmt.Sprintf("%+v", before) || fmt.Sprintf("%+v", wrong) != fmt.Sprintf("%+v", kept) {
		t.Errorf("%+v was %+v", wrong, kept)
	}
}

// wrongRules has each of the conditions that may not be.
func wrongRules() (l []api.Rule) {
	for _, c := range wrongConds() {
		l = append(l, api.Rule{Conds: []api.Cond{c}})
	}
	return l
}

// What is answered hangs on what is handed in alone: rules that are changed behind a call are other ones, and nothing of old ones is kept.
func TestP17_2NothingIsKept(t *testing.T) {
	l, x := rules(t, "deny under b\nallow any"), to(t, "a.b")
	allow, which, e := Judge(l, x)
	l[0].Conds[0].Host.Name = "c"
	answers(t, l, x, true, 1, api.OK)
	l[1].Allow = false
	answers(t, l, x, false, 1, api.OK)
	l[1].Conds[0] = cond(t, "ports 81")
	answers(t, l, x, false, -1, api.OK)
	l[1].Conds[0].Ports[0].From = 80
	answers(t, l, x, false, 1, api.OK)
	l[1].Conds[0].Ports[0].From = 0
	answers(t, l, x, false, 0, api.ErrArg)
	if allow || which != 0 || e != api.OK {
		t.Errorf("%v %d %v", allow, which, e)
	}
	for range 3 {
		judged(t, "deny under b\nallow any", "a.b", false, 0)
		judged(t, "deny under c\nallow any", "a.b", true, 1)
	}
}

// What stands behind the rule that decides may be anything that may be, or nothing.
func TestP17_3RulesBehind(t *testing.T) {
	for seed := range uint64(1500) {
		pick := picker(seed)
		l := anyRules(t, pick)
		x := to(t, one(pick, targets))
		allow, which, e := Judge(l, x)
		if which < 0 {
			answers(t, append(l, rules(t, "deny any")...), x, false, len(l), api.OK)
			answers(t, append(l, rules(t, "allow any")...), x, true, len(l), api.OK)
			continue
		}
		ahead := slices.Clone(l[:which+1])
		answers(t, ahead, x, allow, which, e)
		answers(t, slices.Concat(ahead, anyRules(t, pick), anyRules(t, pick)), x, allow, which, e)
		answers(t, slices.Concat(ahead, rules(t, "allow any\ndeny any")), x, allow, which, e)
		answers(t, slices.Concat(ahead, rules(t, "deny any\nallow any")), x, allow, which, e)
		answers(t, l[:which], x, false, -1, e)
	}
}

// All spellings of one host are one target, of which all rules say the same.
func TestP17_3HoweverWritten(t *testing.T) {
	for _, ways := range []string{
		"paypal.com PAYPAL.com paypal.com. p%61ypal.COM \uFF50aypal.com paypal\u3002com paypal\uFF0Ecom\uFF61 pay\u00ADpal.com %70%61%79%70%61%6C%2E%63%6F%6D.",
		"xn--pypal-4ve.com p\u0430ypal.com P\u0410YPAL.COM p%D0%B0ypal.com XN--PYPAL-4VE.com. xn--pypal-4ve%2Ecom",
		"b\u00FCcher.de bu\u0308cher.de B\u00DCCHER.DE. BU\u0308CHER.de xn--bcher-kva.de b%C3%BCcher%2Ede Xn--Bcher-Kva.DE b\uFF55\u0308cher.de",
		"10.1.2.3 0xa.1.2.3 167838211 10.1.515 012.1.2.3 10.66051 \uFF11\uFF10.1.2.3 10.1.2.3. 10%2E1.2.3 0x0A010203",
		"[::1] [0:0:0:0:0:0:0:1] [0::0001] [::0.0.0.1]",
		"[::ffff:10.1.2.3] [::FFFF:a01:203] [0:0:0:0:0:ffff:0a01:0203]",
	} {
		spelled := strings.Fields(ways)
		for seed := range uint64(100) {
			l := anyRules(t, picker(seed))
			for _, port := range []string{":80", ":443"} {
				allow, which, e := Judge(l, to(t, spelled[0]+port))
				for _, s := range spelled {
					answers(t, l, to(t, s+port), allow, which, e)
					x, fault := canon.Absolute("HTTP://" + s + port + "/x?y")
					if fault != api.OK {
						t.Fatalf("%q: %v", s, fault)
					}
					answers(t, l, x, allow, which, e)
				}
			}
		}
	}
}

// doubles is all names that are this one but for letters that look alike, at one place, and at all.
func doubles(name string) []string {
	out := []string{name}
	for letter, its := range map[string]string{"a": "\u0430\u03B1", "o": "0\u043E\u03BF", "l": "1", "p": "\u0440\u03C1", "c": "\u0441", "y": "\u0443", "x": "\u0445", "s": "\u0455", "i": "\u0456", "j": "\u0458", "e": "\u0435", "v": "\u03BD", "\u30FC": "\u4E00"} {
		for _, other := range its {
			out = append(out, strings.ReplaceAll(name, letter, string(other)))
			for i := range name {
				if strings.HasPrefix(name[i:], letter) {
					out = append(out, name[:i]+string(other)+name[i+len(letter):])
				}
			}
		}
	}
	return append(out, strings.ReplaceAll(name, "m", "rn"), strings.ReplaceAll(name, "rn", "m"))
}

func TestP17_3WhatLooksAlike(t *testing.T) {
	for _, name := range []string{"paypal.com", "example.com", "vox.joy", "mm.rn.mrn", "sicilia.x", "\u30FC.x", "b\u00FCcher.de"} {
		for _, spelled := range doubles(name) {
			x := to(t, spelled)
			for _, like := range doubles(name) {
				answers(t, rules(t, "deny like "+like+"\nallow any"), x, false, 0, api.OK)
				answers(t, rules(t, "deny like "+like+" ports 81\nallow like "+like), x, true, 1, api.OK)
			}
			judged(t, "deny like "+name+" !host "+name+"\nallow any", spelled, x == to(t, name), map[bool]int{true: 1, false: 0}[x == to(t, name)])
			judged(t, "deny like x"+name+"\ndeny like x."+name+"\nallow any", spelled, true, 2)
		}
	}
}

// A rule that denies what looks like a domain, and stands first, denies all that do, and nothing else.
func TestP17_3LikeStandsFirst(t *testing.T) {
	for _, line := range targets {
		like := to(t, line).Host
		if like.Kind != api.Domain {
			continue
		}
		l := append([]api.Rule{{Conds: []api.Cond{{Kind: api.CondLike, Host: like}}}}, rules(t, "allow any")...)
		for _, s := range targets {
			x := to(t, s)
			if x.Host.Kind == api.Domain && skel.Alike(wordsForm(x.Host.Name), wordsForm(like.Name)) {
				answers(t, l, x, false, 0, api.OK)
			} else {
				answers(t, l, x, true, 1, api.OK)
			}
		}
	}
}
