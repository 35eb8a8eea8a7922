package trie

import (
	"fmt"
	"slices"
	"strings"
	"testing"

	"portcullis/api"
	"portcullis/canon"
	"portcullis/judge"
	"portcullis/rule"
	"portcullis/shown"
	"portcullis/skel"
)

// Conditions of every kind, and targets of which some fit each of them and some do not.
var (
	conds = []string{
		"any",
		"host a.b", "host b", "host paypal.com", "host 10.1.2.3", "host [::1]", "host p\u0430ypal.com", "host [::ffff:10.1.2.3]",
		"under b", "under com", "under a.b", "under p\u0430ypal.com", "under paypal.com", "under \u4E00",
		"like paypal.com", "like p\u0430ypal.com", "like m.com", "like a.b", "like \u0430", "like ll",
		"net 10.0.0.0/8", "net 10.1.2.3/32", "net 0.0.0.0/0", "net 10.1.2.0/23", "net [::]/0", "net [::1]/128", "net [fe80::]/10", "net [::ffff:0:0]/96",
		"scripts Latin", "scripts Latin, Cyrillic", "scripts Greek, Hebrew, Arabic, Devanagari, Han, Deseret",
		"level ascii", "level one", "level high",
		"ports 80", "ports 443, 80", "ports 1-79, 81-65535", "ports 1-65535",
	}
	targets = strings.Fields("a.b b ab x.a.b a.b.c com xcom paypal.com www.paypal.com paypa1.com p\u0430ypal.com www.p\u0430ypal.com \u0440\u0430\u0443\u0440\u0430l.com paypal.c\u043Em " +
		"m.com rn.com a \u0430 \u03B1 ll l1 11a a\u0430.com a.\u0430.com \u4E00 a.\u4E00 a\u4E00 a\u3042\u30A2\u4E00.jp \u3042\u0430 a\U00010428 \u05D0\u05D1 \u05D0.a \u0915\u0937 b\u00FCcher.de - 1-_.a_ \u2603 xn--tda " +
		"10.1.2.3 10.1.2.2 10.1.3.3 10.1.4.3 10.0.0.0 11.0.0.0 9.255.255.255 0.0.0.0 255.255.255.255 [::1] [::] [::2] [fe80::1] [febf::] [fec0::] [::ffff:10.1.2.3] [::10.1.2.3] " +
		"a.b:81 a.b:443 b:8080 paypal.com:1 p\u0430ypal.com:443 10.1.2.3:443 [::1]:65535 a:79 ab:90 com:91")
)

// wrongHosts are none of a target's.
func wrongHosts() []api.Host {
	return []api.Host{
		{}, {Name: "a"}, {Four: 1}, {Kind: 4, Name: "a.b"}, {Kind: 4}, {Kind: 5, Name: "a"}, {Kind: 255},
		domainOf(""), domainOf("."), domainOf("a."), domainOf("a.b."), domainOf("a..b"), domainOf(".a"), domainOf("A"), domainOf("a.B"), domainOf("b\u00FCcher"), domainOf("a b"), domainOf("a:80"), domainOf("%61"), domainOf("xn--a"), domainOf("xn--"), domainOf("XN--TDA"), domainOf("1.2.3.4"), domainOf("0x7f.1"), domainOf("a.1"), domainOf("[::1]"), domainOf("a\xff"), domainOf("a\x00"),
		domainOf(long("a", 64)), domainOf("b." + long("a", 64)), domainOf(long("a.", 254) + "bc"), domainOf(long("a.", 5000) + "b"),
		{Kind: 1, Name: "a", Four: 1}, {Kind: 1, Name: "a", Six: [8]uint16{7: 1}},
		{Kind: 2, Four: 1, Name: "a"}, {Kind: 2, Six: [8]uint16{1}}, {Kind: 3, Four: 1}, {Kind: 3, Name: "::"},
	}
}

// wrongConds may not be, of each kind.
func wrongConds() []api.Cond {
	name, four, six := domainOf("a.b"), fourOf(0x0A000000), api.Host{Kind: api.Six}
	ports, scripts := []api.Ports{{From: 1, To: 65535}}, []uint8{2, 3, 4}
	l := []api.Cond{{}, {Kind: 9}, {Kind: 255}, {Kind: 128, Host: name}}
	for kind := uint8(0); kind < 9; kind++ { // with more than any kind has
		l = append(l, api.Cond{Kind: kind, Host: name, Bits: 1, Scripts: scripts, Level: 5, Ports: ports})
	}
	for _, h := range wrongHosts() {
		l = append(l, api.Cond{Kind: api.CondHost, Host: h}, api.Cond{Kind: api.CondUnder, Host: h}, api.Cond{Kind: api.CondLike, Host: h}, netOf(h, 0))
	}
	return append(l,
		api.Cond{Kind: api.CondAny, Host: name}, api.Cond{Kind: api.CondHost, Host: name, Ports: ports}, api.Cond{Kind: api.CondHost, Host: four, Bits: 8},
		api.Cond{Kind: api.CondUnder, Host: four}, api.Cond{Kind: api.CondUnder, Host: six}, api.Cond{Kind: api.CondLike, Host: four}, api.Cond{Kind: api.CondLike, Host: six},
		netOf(name, 0), netOf(four, 33), netOf(four, 6), netOf(fourOf(1), 31), netOf(fourOf(1), 0), netOf(six, 129), netOf(six, 255), netOf(sixOf(0, 0, 0, 0, 0, 0, 0, 1), 127),
		api.Cond{Kind: api.CondScripts}, api.Cond{Kind: api.CondScripts, Scripts: []uint8{1, 2}}, api.Cond{Kind: api.CondScripts, Scripts: []uint8{2, 12}}, api.Cond{Kind: api.CondScripts, Scripts: []uint8{3, 2}},
		api.Cond{Kind: api.CondLevel}, api.Cond{Kind: api.CondLevel, Level: 6},
		api.Cond{Kind: api.CondPorts}, api.Cond{Kind: api.CondPorts, Ports: []api.Ports{{From: 0, To: 80}}}, api.Cond{Kind: api.CondPorts, Ports: []api.Ports{{From: 81, To: 80}}}, api.Cond{Kind: api.CondPorts, Ports: slices.Repeat(ports, 17)},
	)
}

func TestP18_1Rules(t *testing.T) {
	for _, line := range conds {
		for _, sign := range []string{"", "!"} {
			l := rules(t, "deny "+sign+line)
			keeps(t, of(t, l), l)
			l = rules(t, "allow any "+sign+line+" "+line)
			keeps(t, of(t, l), l)
		}
	}
	l := rules(t, "deny "+strings.Join(conds, "\nallow ")+"\ndeny "+strings.Join(conds, "\nallow !"))
	keeps(t, of(t, l), l)
	slices.Reverse(l)
	keeps(t, of(t, l), l)
	l = rules(t, "allow any host a.b under b like a.b net 10.0.0.0/8 scripts Latin, Han level one ports 80, 1-9")
	keeps(t, of(t, l), l)
}

func TestP18_1RulesInOrder(t *testing.T) {
	var l []api.Rule
	for i := range api.MaxRules {
		l = append(l, api.Rule{Allow: i%3 == 0, Conds: []api.Cond{{Kind: api.CondPorts, Ports: []api.Ports{{From: uint16(i + 1), To: uint16(i + 2)}}}}})
	}
	keeps(t, of(t, l), l)
	for i, r := range of(t, l).Rules() {
		if r.Conds[0].Ports[0].From != uint16(i+1) || r.Allow != (i%3 == 0) {
			t.Errorf("%d: %+v", i, r)
		}
	}
}

func TestP18_1NoRules(t *testing.T) {
	for _, l := range [][]api.Rule{nil, {}} {
		of := of(t, l)
		if len(of.Rules()) != 0 {
			t.Error(of.Rules())
		}
		for _, s := range targets {
			has(t, of, to(t, s), nil, api.OK)
			decides(t, of, to(t, s), false, -1, api.OK)
		}
		for _, h := range wrongHosts() {
			has(t, of, aim(h, 80), nil, api.ErrArg)
			decides(t, of, aim(h, 80), false, 0, api.ErrArg)
		}
	}
}

func TestP18_1MaxRules(t *testing.T) {
	for _, line := range []string{"allow any", "deny host a", "allow under a", "deny like a level one ports 80 under a host a scripts Latin !net 0.0.0.0/0 any", "allow net [::]/0"} {
		l := slices.Repeat(rules(t, line), api.MaxRules)
		of := of(t, l)
		byWords(t, of, l, to(t, "a"))
		byWords(t, of, l, to(t, "[::1]"))
		for _, many := range []int{api.MaxRules + 1, api.MaxRules + 2, 2 * api.MaxRules, 10000} {
			refused(t, slices.Repeat(l[:1], many), api.ErrFull)
		}
	}
	// More than MaxRules is told ahead of what may not be.
	good := slices.Repeat(rules(t, "allow any"), api.MaxRules)
	refused(t, append(slices.Clone(good), api.Rule{}), api.ErrFull)
	refused(t, append([]api.Rule{{}}, good...), api.ErrFull)
	refused(t, make([]api.Rule, 257), api.ErrFull)
	refused(t, make([]api.Rule, 256), api.ErrArg)
	refused(t, append(good[:255:255], api.Rule{}), api.ErrArg)
}

func TestP18_1RulesThatMayNotBe(t *testing.T) {
	good := rules(t, "deny host b\nallow under b\ndeny any\nallow net 10.0.0.0/8")
	wrong := []api.Rule{{}, {Allow: true}, {Conds: []api.Cond{}}, {Conds: slices.Repeat(good[2].Conds, api.MaxConds+1)}}
	for _, c := range wrongConds() {
		wrong = append(wrong, api.Rule{Conds: []api.Cond{c}}, api.Rule{Conds: []api.Cond{not(c)}}, api.Rule{Allow: true, Conds: []api.Cond{good[2].Conds[0], c}}, api.Rule{Conds: []api.Cond{c, good[0].Conds[0]}})
	}
	for _, r := range wrong {
		refused(t, []api.Rule{r}, api.ErrArg)
		for i := range len(good) + 1 {
			refused(t, slices.Insert(slices.Clone(good), i, r), api.ErrArg)
		}
		many := slices.Repeat(good, api.MaxRules/len(good))
		many[200] = r
		refused(t, many, api.ErrArg)
	}
	// Eight conditions may be.
	most := []api.Rule{{Allow: true, Conds: slices.Repeat(good[2].Conds, api.MaxConds)}}
	byWords(t, of(t, most), most, to(t, "a"))
}

// What is nil, or was not made by Compile, has nothing.
func TestP18_1NilTries(t *testing.T) {
	for _, of := range []*Trie{nil, {}, new(Trie)} {
		for _, x := range []api.Target{to(t, "a.b"), to(t, "1.2.3.4"), to(t, "[::1]"), {}, aim(domainOf("A"), 0)} {
			has(t, of, x, nil, api.ErrNil)
			decides(t, of, x, false, 0, api.ErrNil)
		}
		if of.Rules() != nil {
			t.Error("Rules of none")
		}
	}
}

func TestP18_2Examples(t *testing.T) {
	lines := "deny like paypal.com\nallow under b !host c.b\nallow net 10.0.0.0/8\ndeny any"
	judged(t, lines, "a.b:80", "1 3", true, 1)
	judged(t, lines, "c.b:80", "1 3", false, 3)
	judged(t, lines, "10.2.3.4:80", "2 3", true, 2)
	judged(t, lines, "paypal.com:80", "0 3", false, 0)
	judged(t, lines, "p\u0430ypal.com:80", "0 3", false, 0)
	judged(t, lines, "[::10.2.3.4]:80", "3", false, 3)
}

// The document's own rules.
func TestP18_2ExamplesOfTheWhole(t *testing.T) {
	lines := "deny like paypal.com !host paypal.com\nallow under example.com ports 80, 443\nallow host paypal.com"
	judged(t, lines, "EXAMPLE.com.", "1", true, 1)
	judged(t, lines, "www.%65xample.com:8080", "1", false, -1)
	judged(t, lines, "p\u0430ypal.com:443", "0", false, 0)
	judged(t, lines, "paypal.com:443", "0 2", true, 2)
	judged(t, lines, "0x7f.1", "", false, -1)
}

func TestP18_2TargetsThatMayNotBe(t *testing.T) {
	for _, lines := range []string{"", "allow any", "deny !any\nallow host a.b", "deny host b\nallow like a.b\nallow net 0.0.0.0/0\nallow net [::]/0\ndeny any"} {
		of := of(t, rules(t, lines))
		for _, h := range wrongHosts() {
			for _, port := range []uint16{0, 80} {
				has(t, of, aim(h, port), nil, api.ErrArg)
				decides(t, of, aim(h, port), false, 0, api.ErrArg)
			}
		}
		for _, s := range targets {
			x := to(t, s)
			x.Port = 0
			has(t, of, x, nil, api.ErrArg)
			decides(t, of, x, false, 0, api.ErrArg)
		}
	}
}

func TestP18_2Hosts(t *testing.T) {
	holdsOf(t, "host a.b", "a.b a.b:443 A.B. a%2Eb \uFF41\u3002b", "b a aa.b a.bb x.a.b a.b.c ab a-b 1.2.3.4 [::1]")
	holdsOf(t, "host b\u00FCcher.de", "xn--bcher-kva.de BU\u0308CHER.DE", "bucher.de b\u00FCcher.d xn--bcher-kva x.b\u00FCcher.de")
	holdsOf(t, "host b", "b", "a.b b.b b.a bb")
	holdsOf(t, "host 1.2.3.4", "1.2.3.4 1.2.3.4:1 0x1020304", "1.2.3.5 0.2.3.4 129.2.3.4 [::1.2.3.4] [::ffff:1.2.3.4] [102:304::] a 1.2.3.4.x")
	holdsOf(t, "host 0.0.0.0", "0.0.0.0 0", "[::] 0.0.0.1 128.0.0.0 a")
	holdsOf(t, "host 255.255.255.255", "255.255.255.255", "255.255.255.254 127.255.255.255 [ffff:ffff::]")
	holdsOf(t, "host [::]", "[::] [0:0::0]:9", "0.0.0.0 [::1] [8000::] [0:0:0:1::]")
	holdsOf(t, "host [1:2:3:4:5:6:7:8]", "[1:2:3:4:5:6:7:8]", "[0:2:3:4:5:6:7:8] [1:3:3:4:5:6:7:8] [1:2:2:4:5:6:7:8] [1:2:3:5:5:6:7:8] [1:2:3:4:4:6:7:8] [1:2:3:4:5:7:7:8] [1:2:3:4:5:6:6:8] [1:2:3:4:5:6:7:9]")
}

func TestP18_2Under(t *testing.T) {
	holdsOf(t, "under b", "b a.b x.a.b b.b a.b:9 xn--tda.b", "a ab a-b b.a bb xb a.xb b.b.a ba 1.2.3.4 [::b]")
	holdsOf(t, "under a.b", "a.b x.a.b a.b.a.b y.x.a.b", "b x.b xa.b a-a.b ab a.b.c a b.a x.aa.b")
	holdsOf(t, "under com", "com x.com com.com", "xcom com.x c co om x.xcom com.com.x")
	holdsOf(t, "under b\u00FCcher.de", "b\u00FCcher.de a.B\u00DCCHER.DE. x.xn--bcher-kva.de", "de bucher.de xb\u00FCcher.de cher-kva.de")
	holdsOf(t, "under x.a", "x.a "+long("a.", 250)+"x.a", "a a.a 10.0.0.1")
	name := long("a", 63) + "." + long("b", 63) + "." + long("c", 63) + "." + long("d", 61)
	holdsOf(t, "under "+name, name, name[1:]+" "+name[2:]+" d."+name[64:]+" "+name[64:])
	holdsOf(t, "under "+name[64:], name+" "+name[64:]+" x."+name[64:], name[65:]+" x"+name[65:])
	// As many labels as there may be.
	deep := long("a.", 253)
	holdsOf(t, "under "+deep, deep, deep[2:]+" b"+deep[1:])
	holdsOf(t, "host "+deep, deep, deep[2:]+" b"+deep[1:]+" "+deep[:252]+"b")
	holdsOf(t, "under "+deep[2:], deep+" "+deep[2:]+" b"+deep[1:], deep[4:])
}

// Every end of a name, cut anywhere: it is below just those that are cut at a dot, and itself.
func TestP18_2UnderEveryEnd(t *testing.T) {
	name := "ab.c-d.xn--tda.efg.ab.c"
	for i := range name {
		c := api.Cond{Kind: api.CondUnder, Host: domainOf(name[i:])}
		if !rule.May(api.Rule{Conds: []api.Cond{c}}) {
			continue
		}
		asked(t, c, aim(domainOf(name), 80), i == 0 || name[i-1] == '.')
		asked(t, c, aim(domainOf(name[i:]), 80), true)
		asked(t, api.Cond{Kind: api.CondHost, Host: domainOf(name[i:])}, aim(domainOf(name), 80), i == 0)
		asked(t, api.Cond{Kind: api.CondUnder, Host: domainOf(name)}, aim(domainOf(name[i:]), 80), i == 0)
	}
}

// A name that is Host's, below it, above it, beside it, all in one trie.
func TestP18_2NamesOfOneTree(t *testing.T) {
	lines := "allow host b\nallow under b\nallow host a.b\nallow under a.b\nallow host c.b\nallow under c.b\nallow host x.a.b\nallow under x.a.b\nallow host ab\nallow under a"
	judged(t, lines, "b", "0 1", true, 0)
	judged(t, lines, "a.b", "1 2 3", true, 1)
	judged(t, lines, "c.b", "1 4 5", true, 1)
	judged(t, lines, "d.b", "1", true, 1)
	judged(t, lines, "x.a.b", "1 3 6 7", true, 1)
	judged(t, lines, "y.a.b", "1 3", true, 1)
	judged(t, lines, "z.x.a.b", "1 3 7", true, 1)
	judged(t, lines, "ab", "8", true, 8)
	judged(t, lines, "x.ab", "", false, -1)
	judged(t, lines, "b.a", "9", true, 9)
	judged(t, lines, "a", "9", true, 9)
	judged(t, lines, "c", "", false, -1)
	judged(t, lines, "1.2.3.4", "", false, -1)
}

func TestP18_2Like(t *testing.T) {
	holdsOf(t, "like paypal.com", "paypal.com PAYPAL.COM p\u0430ypal.com payp\u0430l.com p\u0430yp\u0430l.com \u0440ayp\u03B1l.com pa\u0443pal.com paypa1.com \u03C1\u0430\u0443\u03C1\u03B1l.\u0441\u043Em paypal.c0m paypal.corn paypal.com:443", "paypal.co paypal.con www.paypal.com aypal.com paypal-com p.aypal.com paypal p\u00E1ypal.com paypai.com 1.2.3.4 [::1]")
	holdsOf(t, "like p\u0430ypal.com", "paypal.com p\u0430ypal.com paypa1.com", "paypal.de xn--pypal-4ve.corn.x")
	holdsOf(t, "like m", "m rn", "n r nr mm rnn r.n")
	holdsOf(t, "like rnrn.x", "mm.x mrn.x rnm.x rnrn.\u0445", "m.x mrm.x rnrnrn.x")
	holdsOf(t, "like o.x", "o.x 0.x \u043E.x \u03BF.\u0445 o.x:1", "o oo.x ox o.xx a.x \u00F6.x 0.0.0.0")
	holdsOf(t, "like b\u00FCcher.de", "b\u00FCcher.de xn--bcher-kva.de b\u00FC\u0441her.de", "bucher.de bcher-kva.de")
	// Of several that look alike all are candidates.
	lines := "deny like m.com\nallow like rn.com ports 81\nallow like rn.\u0441om\nallow like m.corn\nallow like n.com"
	for _, s := range []string{"m.com", "rn.com", "m.corn", "rn.\u0441orn"} {
		judged(t, lines, s, "0 1 2 3", false, 0)
	}
	judged(t, lines, "n.com", "4", true, 4)
	judged(t, lines, "x.rn.com", "", false, -1)
}

// Each domain of the list against each.
func TestP18_2LikeEachOther(t *testing.T) {
	var l []api.Rule
	for _, s := range targets {
		if h := to(t, s).Host; h.Kind == api.Domain {
			l = append(l, api.Rule{Conds: []api.Cond{{Kind: api.CondLike, Host: h}}})
		}
	}
	of := of(t, l)
	for _, s := range targets {
		x := to(t, s)
		var want []int
		for i, r := range l {
			if x.Host.Kind == api.Domain && skel.Alike(shown.Form(x.Host), shown.Form(r.Conds[0].Host)) {
				want = append(want, i)
			}
		}
		has(t, of, x, want, api.OK)
	}
}

func TestP18_2Nets(t *testing.T) {
	holdsOf(t, "net 10.0.0.0/8", "10.0.0.0 10.255.255.255 10.128.0.0 10.1.2.3:443", "11.0.0.0 9.255.255.255 138.0.0.0 8.0.0.0 0.0.0.0 [a00::] [::10.0.0.0] [::ffff:10.0.0.0] a 10.a")
	holdsOf(t, "net 1.2.3.4/32", "1.2.3.4", "1.2.3.5 1.2.3.6 129.2.3.4 0.2.3.4")
	holdsOf(t, "net 1.2.3.4/31", "1.2.3.4 1.2.3.5", "1.2.3.6 1.2.3.3 1.2.3.0")
	holdsOf(t, "net 0.0.0.0/0", "0.0.0.0 255.255.255.255 128.0.0.1", "[::] [::1] [ffff::] a xn--tda")
	holdsOf(t, "net 128.0.0.0/1", "128.0.0.0 255.255.255.255", "127.255.255.255 0.0.0.0")
	holdsOf(t, "net [::]/0", "[::] [::1] [ffff:ffff:ffff:ffff:ffff:ffff:ffff:ffff] [::ffff:1.2.3.4]", "0.0.0.0 255.255.255.255 a")
	holdsOf(t, "net [fe80::]/10", "[fe80::] [febf:ffff::1] [fea0::]", "[fec0::] [fe7f::] [7e80::] [::fe80] 254.128.0.0")
	holdsOf(t, "net [1:2:3:4:5:6:7:8]/128", "[1:2:3:4:5:6:7:8]", "[1:2:3:4:5:6:7:9] [1:2:3:4:5:6:8007:8] [8001:2:3:4:5:6:7:8]")
	holdsOf(t, "net [::ffff:0:0]/96", "[::ffff:1.2.3.4] [::ffff:0:0]", "1.2.3.4 [::fffe:1.2.3.4] [::1:ffff:0:0] [::]")
}

// Every length, and every bit: the last one that counts, the first one that does not, and all others. All nets of an address are one trie, each within the ones ahead of it.
func TestP18_2NetsWithinNets(t *testing.T) {
	within := func(h api.Host) {
		width := len(bitsOf(h))
		var l []api.Rule
		var all []int
		for bits := range width + 1 {
			l = append(l, api.Rule{Allow: true, Conds: []api.Cond{netOf(head(h, bits), bits)}})
			all = append(all, bits)
		}
		l = append(l, api.Rule{Allow: true, Conds: []api.Cond{{Kind: api.CondHost, Host: h}}})
		of := of(t, l)
		has(t, of, aim(h, 80), append(all, width+1), api.OK)
		for set := range width {
			x := aim(flipped(h, set), 80)
			has(t, of, x, all[:set+1], api.OK)
			byWords(t, of, l, x)
			last := aim(head(flipped(h, set), set+1), 80) // nothing is set behind
			has(t, of, last, all[:set+1], api.OK)
		}
		for _, other := range []string{"1.2.3.4", "[::]", "a.b"} {
			if x := to(t, other); x.Host.Kind != h.Kind {
				has(t, of, x, nil, api.OK)
			}
		}
	}
	for _, four := range []uint32{0, 0xFFFFFFFF, 0x0A010203, 0xAAAAAAAA, 0x55555555} {
		within(fourOf(four))
	}
	within(api.Host{Kind: api.Six})
	within(sixOf(0xFE80, 0xFFFF, 0x8001, 0, 0xAAAA, 0x5555, 7, 0xFFFF))
	within(sixOf(0, 0, 0, 0, 0, 0xFFFF, 0x0A01, 0x0203))
}

// A Four and a Six are no one's net of the other kind, even of no bits, or if all that count are alike.
func TestP18_2NetsOfTheOtherKind(t *testing.T) {
	for _, a := range []uint32{0, 1, 0x0A000001, 0xFFFFFFFF} {
		low, high := uint16(a), uint16(a>>16)
		for _, h := range []api.Host{sixOf(0, 0, 0, 0, 0, 0, 0, 0), sixOf(high, low, 0, 0, 0, 0, 0, 0), sixOf(0, 0, 0, 0, 0, 0, high, low), sixOf(0, 0, 0, 0, 0, 0xFFFF, high, low)} {
			for _, bits := range []int{0, 1, 8, 31, 32} {
				asked(t, netOf(head(fourOf(a), bits), bits), aim(h, 80), false)
				asked(t, netOf(head(h, bits), bits), aim(fourOf(a), 80), false)
			}
			asked(t, netOf(h, 128), aim(fourOf(a), 80), false)
			asked(t, api.Cond{Kind: api.CondHost, Host: h}, aim(fourOf(a), 80), false)
			asked(t, api.Cond{Kind: api.CondHost, Host: fourOf(a)}, aim(h, 80), false)
		}
	}
}

// Conditions of all other kinds make no rule less of a candidate, whether they hold or not; nor do any with Not.
func TestP18_2WhatMakesNoneLess(t *testing.T) {
	for _, s := range targets {
		x := to(t, s)
		for _, line := range conds {
			c := cond(t, line)
			l := []api.Rule{{Conds: []api.Cond{not(c)}}, {Allow: true, Conds: []api.Cond{not(c), not(c), cond(t, "any")}}}
			has(t, of(t, l), x, []int{0, 1}, api.OK)
			byWords(t, of(t, l), l, x)
			if c.Kind == api.CondAny || c.Kind > api.CondNet {
				l = append(l, api.Rule{Conds: []api.Cond{c}}, api.Rule{Conds: []api.Cond{c, not(c)}})
				has(t, of(t, l), x, []int{0, 1, 2, 3}, api.OK)
			}
		}
	}
	judged(t, "allow !any\nallow ports 81\nallow level ascii scripts Latin\ndeny !ports 1-65535", "1.2.3.4", "0 1 2 3", false, -1)
	judged(t, "allow !host a\nallow !under a\nallow !like a\nallow !net 0.0.0.0/0", "a", "0 1 2 3", true, 3)
	judged(t, "allow !host 1.2.3.4\nallow !net 1.0.0.0/8\nallow !under a", "1.2.3.4", "0 1 2", true, 2)
}

// Several conditions: all of these kinds must hold, of one kind and of several.
func TestP18_2SeveralConditions(t *testing.T) {
	judged(t, "allow host a.b under b under a.b like a.b ports 80", "a.b", "0", true, 0)
	judged(t, "allow host a.b under b under a.b like a.b ports 81", "a.b", "0", false, -1)
	judged(t, "allow under b under a.b", "c.b", "", false, -1)
	judged(t, "allow under a.b under b", "c.b", "", false, -1)
	judged(t, "allow under b like a.c", "a.b", "", false, -1)
	judged(t, "allow like \u0430.c like a.b under b", "a.b", "", false, -1)
	judged(t, "allow like \u0430.b like a.b under b", "a.b", "0", true, 0)
	judged(t, "allow net 10.0.0.0/8 net 10.1.0.0/16 host 10.1.2.3", "10.1.2.3", "0", true, 0)
	judged(t, "allow net 10.0.0.0/8 net 10.1.0.0/16 host 10.1.2.3", "10.1.2.4", "", false, -1)
	judged(t, "allow net 10.0.0.0/8 net 11.0.0.0/8", "10.1.2.3", "", false, -1)
	judged(t, "allow net 0.0.0.0/0 under a\nallow net [::]/0 net 0.0.0.0/0\nallow host a host 1.2.3.4", "a", "", false, -1)
	judged(t, "allow net 0.0.0.0/0 under a\nallow net [::]/0 net 0.0.0.0/0\nallow host a host 1.2.3.4", "1.2.3.4", "", false, -1)
	judged(t, "allow host a host b\nallow host a !host a\nallow host a !host b", "a", "1 2", true, 2)
	judged(t, "allow any !any\nallow ports 80 !ports 80\nallow under b !under b", "b", "0 1 2", false, -1)
	judged(t, "allow any !any\nallow ports 80 !ports 80\nallow under b !under b", "c", "0 1", false, -1)
}

// Each of eight conditions alone may keep a rule from being a candidate.
func TestP18_2EachOfEight(t *testing.T) {
	lines := strings.Fields("host:x.a.b under:b under:a.b like:x.a.b like:\u0445.a.b under:x.a.b host:x.a.b under:b")
	for i := range lines {
		for _, other := range []string{"", "under c", "host a.b", "like a.b", "net 0.0.0.0/0", "!under b", "ports 81"} {
			own := slices.Clone(lines)
			if other != "" {
				own[i] = other
			}
			l := rules(t, "allow any\nallow "+strings.ReplaceAll(strings.Join(own, " "), ":", " "))
			of := of(t, l)
			for _, s := range []string{"x.a.b", "a.b", "y.x.a.b", "1.2.3.4"} {
				byWords(t, of, l, to(t, s))
			}
			if kept, _ := of.Candidates(to(t, "x.a.b")); len(kept) != map[bool]int{true: 2, false: 1}[other == "" || other[0] == '!' || other[0] == 'p'] {
				t.Errorf("%v: %v", own, kept)
			}
		}
	}
}

// The same condition twice, up to eight times, in a rule.
func TestP18_2TheSameTwice(t *testing.T) {
	for _, line := range conds {
		for _, many := range []int{2, 3, 8} {
			own := strings.Repeat(" "+line, many)
			l := rules(t, "deny"+own+"\nallow "+line+"\ndeny any\nallow"+own)
			of := of(t, l)
			for _, s := range targets {
				byWords(t, of, l, to(t, s))
			}
		}
	}
	judged(t, "allow host a host a under a under a like a like a", "a", "0", true, 0)
	judged(t, "allow host a host a under a under a like a like a", "b", "", false, -1)
	judged(t, "allow host a host a under b", "a", "", false, -1)
	judged(t, "allow net 10.0.0.0/8 net 10.0.0.0/8\nallow host 10.0.0.1 host 10.0.0.1", "10.0.0.1", "0 1", true, 0)
}

// Several rules end at one place, one of them with others beside.
func TestP18_2OnePlace(t *testing.T) {
	judged(t, "deny host a.b ports 81\nallow host a.b\ndeny host a.b\ndeny host a.b host b", "a.b", "0 1 2", true, 1)
	judged(t, "deny under b ports 81\ndeny under b under c\ndeny under b\nallow under b", "a.b", "0 2 3", false, 2)
	judged(t, "deny like a.b ports 81\ndeny like a.b under c\nallow like a.b\nallow like \u0430.b", "a.b", "0 2 3", true, 2)
	judged(t, "deny net 10.0.0.0/8 ports 81\ndeny net 10.0.0.0/8 under c\nallow net 10.0.0.0/8\nallow net 10.0.0.0/8", "10.9.9.9", "0 2 3", true, 2)
	judged(t, "deny host [::1] ports 81\nallow net [::1]/128\nallow host [::1]", "[::1]", "0 1 2", true, 1)
	judged(t, "allow host 10.0.0.0\nallow net 10.0.0.0/32\nallow net 10.0.0.0/31\nallow net 10.0.0.0/8", "10.0.0.0", "0 1 2 3", true, 0)
	judged(t, "allow host 10.0.0.0\nallow net 10.0.0.0/32\nallow net 10.0.0.0/31\nallow net 10.0.0.0/8", "10.0.0.1", "2 3", true, 2)
}

// Every condition of every target.
func TestP18_2EachConditionEachTarget(t *testing.T) {
	for _, s := range targets {
		x := to(t, s)
		for _, line := range conds {
			l := rules(t, "allow "+line+"\ndeny !"+line+"\nallow any")
			byWords(t, of(t, l), l, x)
		}
	}
}

// All conditions in one trie, with Not and without.
func TestP18_2AllConditions(t *testing.T) {
	l := rules(t, "allow "+strings.Join(conds, "\nallow ")+"\nallow !"+strings.Join(conds, "\nallow !"))
	of := of(t, l)
	for _, s := range targets {
		byWords(t, of, l, to(t, s))
	}
}

func TestP18_2ByWords(t *testing.T) {
	places := map[string]int{}
	for seed := range uint64(1000) {
		pick := picker(seed)
		l := anyRules(t, pick, 12)
		of := of(t, l)
		for range 6 {
			x := to(t, one(pick, targets))
			byWords(t, of, l, x)
			allow, which, _ := of.Judge(x)
			places[fmt.Sprint(which, allow)]++
		}
	}
	if len(places) < 15 {
		t.Errorf("these rules decide too little: %v", places)
	}
}

func TestP18_2ManyRules(t *testing.T) {
	for seed := range uint64(12) {
		pick := picker(seed)
		l := anyRules(t, pick, 257)
		of := of(t, l)
		for range 12 {
			byWords(t, of, l, to(t, one(pick, targets)))
		}
	}
}

// Random names of few labels and letters, and random addresses of few bits, so that many share their ways.
func TestP18_2SharedWays(t *testing.T) {
	for seed := range uint64(150) {
		pick := picker(seed)
		host := func() api.Host {
			switch pick.IntN(3) {
			case 0:
				return fourOf(uint32(pick.IntN(4))<<30 | uint32(pick.IntN(4)))
			case 1:
				return sixOf(uint16(pick.IntN(4))<<14, 0, 0, 0, 0, 0, 0, uint16(pick.IntN(4)))
			}
			labels := []string{one(pick, []string{"a", "b", "aa", "xn--80a", "m", "rn"})}
			for range pick.IntN(4) {
				labels = append(labels, one(pick, []string{"a", "b", "ab", "xn--80a"}))
			}
			return domainOf(strings.Join(labels, "."))
		}
		some := func() api.Cond {
			h := host()
			if h.Kind == api.Domain {
				return api.Cond{Kind: 2 + uint8(pick.IntN(3)), Host: h, Not: pick.IntN(6) == 0}
			}
			bits := one(pick, []int{0, 1, 2, 3, 30, 31, len(bitsOf(h)) - 1, len(bitsOf(h))})
			c := netOf(head(h, bits), bits)
			c.Not = pick.IntN(6) == 0
			return c
		}
		var l []api.Rule
		for range 1 + pick.IntN(30) {
			r := api.Rule{Allow: pick.IntN(2) == 0}
			for range 1 + pick.IntN(2) {
				r.Conds = append(r.Conds, some())
			}
			l = append(l, r)
		}
		of := of(t, l)
		for range 20 {
			byWords(t, of, l, aim(host(), 80))
		}
	}
}

func TestP18_2ArgumentsStay(t *testing.T) {
	l := rules(t, "deny like paypal.com !host paypal.com scripts Latin, Cyrillic ports 443, 80, 1-9\nallow net 10.0.0.0/8 !level one\nallow under com scripts Latin ports 9, 8\nallow any")
	before := same(l)
	of := of(t, l)
	for _, s := range targets {
		x := to(t, s)
		name := strings.Clone(x.Host.Name)
		of.Judge(x)
		of.Candidates(x)
		if x.Host.Name != name {
			t.Errorf("%q was %q", x.Host.Name, name)
		}
	}
	of.Rules()
	if told(l) != told(before) {
		t.Errorf("%+v was %+v", l, before)
	}
	wrong := append(slices.Clone(l), api.Rule{})
	refused(t, wrong, api.ErrArg)
	if told(wrong[:4]) != told(before) {
		t.Errorf("%+v was %+v", wrong, before)
	}
}

// What was answered once stays, whatever is asked later; and what is asked later hangs on nothing that was asked.
func TestP18_2AnswersStay(t *testing.T) {
	l := rules(t, "allow under b\ndeny host a.b\nallow any ports 1-9, 80 scripts Latin\ndeny net 0.0.0.0/0\nallow like \u0430.b")
	of := of(t, l)
	first, _ := of.Candidates(to(t, "a.b"))
	kept := of.Rules()
	for range 3 {
		for _, s := range targets {
			byWords(t, of, l, to(t, s))
		}
		has(t, of, aim(api.Host{}, 0), nil, api.ErrArg)
		if !slices.Equal(first, []int{0, 1, 2, 4}) || told(kept) != told(l) {
			t.Fatalf("%v %+v", first, kept)
		}
	}
	for i := range first {
		first[i] = 99
	}
	_ = append(first[:0], 7, 7, 7, 7, 7)
	spoil(kept)
	for _, s := range targets {
		byWords(t, of, l, to(t, s))
	}
}

// What a decision hangs on: the first of the candidates that fits.
func TestP18_3FirstCandidateThatFits(t *testing.T) {
	for seed := range uint64(800) {
		pick := picker(seed)
		l := anyRules(t, pick, 12)
		of := of(t, l)
		x := to(t, one(pick, targets))
		candidates, _ := of.Candidates(x)
		want, verdict := -1, false
		for _, i := range slices.Backward(candidates) {
			if !slices.ContainsFunc(l[i].Conds, func(c api.Cond) bool { return !judge.Holds(c, x) }) {
				want, verdict = i, l[i].Allow
			}
		}
		decides(t, of, x, verdict, want, api.OK)
	}
	judged(t, "allow under b ports 81\nallow under b !any\ndeny under c\ndeny under b\nallow under b", "a.b", "0 1 3 4", false, 3)
	judged(t, "allow under b ports 81\nallow under b !any\ndeny under c\nallow under b\ndeny under b", "a.b", "0 1 3 4", true, 3)
}

// The one that fits stands in each place of MaxRules, and the last one, and none.
func TestP18_3EachPlace(t *testing.T) {
	x := to(t, "a.b")
	for _, other := range []string{"allow host b", "allow under a.b !any"} {
		most := slices.Repeat(rules(t, other), api.MaxRules)
		decides(t, of(t, most), x, false, -1, api.OK)
		for i := range most {
			for _, line := range []string{"allow under b", "deny host a.b", "deny any", "allow like \u0430.b"} {
				l := slices.Clone(most)
				l[i] = rules(t, line)[0]
				decides(t, of(t, l), x, l[i].Allow, i, api.OK)
			}
		}
		most[255] = rules(t, "allow host a.b")[0]
		most[254] = rules(t, "deny host a.c")[0]
		decides(t, of(t, most), x, true, 255, api.OK)
	}
}

// What is changed behind Compile is not changed in the trie: scripts and ports in conditions among it.
func TestP18_3ChangedBehindCompile(t *testing.T) {
	lines := "deny like paypal.com !host paypal.com\nallow under b ports 80, 443\nallow net 10.0.0.0/8 !net 10.1.2.0/23\nallow scripts Latin, Han\ndeny host a.b level one"
	l := rules(t, lines)
	of := of(t, l)
	want := rules(t, lines)
	l[1].Conds[1].Ports[0] = api.Ports{From: 1, To: 1}
	decides(t, of, to(t, "a.b"), true, 1, api.OK)
	l[3].Conds[0].Scripts[0] = api.Cyrillic
	decides(t, of, to(t, "a"), true, 3, api.OK)
	l[1].Conds[0] = api.Cond{Kind: api.CondAny}
	has(t, of, to(t, "c"), []int{3}, api.OK)
	l[1].Allow = false
	decides(t, of, to(t, "a.b"), true, 1, api.OK)
	spoil(l)
	for _, s := range targets {
		byWords(t, of, want, to(t, s))
	}
	keeps(t, of, want)
}

// What Rules answered may be changed: neither the trie nor what it answers again is.
func TestP18_3ChangedAnswers(t *testing.T) {
	lines := "deny like paypal.com !host paypal.com\nallow under b ports 80, 443\nallow net 10.0.0.0/8 !net 10.1.2.0/23\nallow scripts Latin, Han\ndeny host a.b level one"
	want := rules(t, lines)
	of := of(t, want)
	first, second := of.Rules(), of.Rules()
	first[1].Conds[1].Ports[0].To = 1
	first[3].Conds[0].Scripts[0] = api.Cyrillic
	first[0].Conds[1] = api.Cond{}
	keeps(t, of, want)
	spoil(first)
	if told(second) != told(want) {
		t.Errorf("%+v", second)
	}
	for _, s := range targets {
		x := to(t, s)
		answered, _ := of.Candidates(x)
		for i := range answered {
			answered[i] = -1
		}
		byWords(t, of, want, x)
	}
	// What was answered makes a trie of its own.
	again, e := Compile(of.Rules())
	if e != api.OK {
		t.Fatal(e)
	}
	byWords(t, again, want, to(t, "a.b"))
}

// Two tries of their own rules know nothing of each other.
func TestP18_3TwoTries(t *testing.T) {
	a, b := of(t, rules(t, "allow under b\ndeny net 10.0.0.0/8\nallow like \u0430")), of(t, rules(t, "deny any\nallow host a.b"))
	for range 2 {
		has(t, a, to(t, "a.b"), []int{0}, api.OK)
		has(t, b, to(t, "a.b"), []int{0, 1}, api.OK)
		has(t, a, to(t, "10.0.0.1"), []int{1}, api.OK)
		has(t, b, to(t, "10.0.0.1"), []int{0}, api.OK)
		has(t, a, to(t, "a"), []int{2}, api.OK)
		decides(t, a, to(t, "a.b"), true, 0, api.OK)
		decides(t, b, to(t, "a.b"), false, 0, api.OK)
	}
}

// All spellings of one host have the same candidates.
func TestP18_3HoweverWritten(t *testing.T) {
	for _, ways := range []string{
		"paypal.com PAYPAL.com paypal.com. p%61ypal.COM \uFF50aypal.com paypal\u3002com pay\u00ADpal.com",
		"xn--pypal-4ve.com p\u0430ypal.com P\u0410YPAL.COM XN--PYPAL-4VE.com. xn--pypal-4ve%2Ecom",
		"10.1.2.3 0xa.1.2.3 167838211 10.1.515 10.1.2.3.",
		"[::ffff:10.1.2.3] [::FFFF:a01:203] [0:0:0:0:0:ffff:0a01:0203]",
	} {
		spelled := strings.Fields(ways)
		for seed := range uint64(60) {
			l := anyRules(t, picker(seed), 20)
			of := of(t, l)
			candidates, _ := of.Candidates(to(t, spelled[0]))
			allow, which, _ := of.Judge(to(t, spelled[0]))
			for _, s := range spelled {
				x, e := canon.Absolute("HTTP://" + s + "/x")
				if e != api.OK {
					t.Fatalf("%q: %v", s, e)
				}
				has(t, of, x, candidates, api.OK)
				decides(t, of, x, allow, which, api.OK)
			}
		}
	}
}
