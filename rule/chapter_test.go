package rule

import (
	"fmt"
	"math/rand/v2"
	"net/netip"
	"regexp"
	"slices"
	"strconv"
	"strings"
	"testing"
	"unsafe"

	"portcullis/api"
	"portcullis/canon"
	"portcullis/host"
	"portcullis/lex"
)

// What the chapter's words say, done word by word and slowly, so that the tests hold the program to the text. Tokens, names and hosts are those of layers 15, 12 and 14.

// The forms of a net and of ports.
var (
	netForm   = regexp.MustCompile(`(?s)^(.*)/(0|[1-9][0-9]*)$`)
	portsForm = regexp.MustCompile(`^(0|[1-9][0-9]*)(?:-(0|[1-9][0-9]*))?$`)
)

// The words of the chapter's table, of scripts and of levels, and the numbers that package api gives them.
var (
	kindOf   = map[string]uint8{"any": 1, "host": 2, "under": 3, "like": 4, "net": 5, "scripts": 6, "level": 7, "ports": 8}
	scriptOf = map[string]uint8{"Latin": 2, "Greek": 3, "Cyrillic": 4, "Hebrew": 5, "Arabic": 6, "Devanagari": 7, "Hiragana": 8, "Katakana": 9, "Han": 10, "Deseret": 11}
	levelOf  = map[string]uint8{"ascii": 1, "one": 2, "high": 3, "middle": 4, "any": 5}
)

// wordOf is the word that has this number.
func wordOf(words map[string]uint8, n uint8) string {
	for word, its := range words {
		if its == n {
			return word
		}
	}
	return "?"
}

// automaton is a reader of rules that knows in which state it is, and what it has read.
type automaton struct {
	state string
	rules []api.Rule
	parts int
}

// states tells what each state does with a token: it answers the next state, or an error, or neither, if the token is one for the state "next".
var states = map[string]func(a *automaton, x api.Token) (string, api.Errno){
	"verdict": func(a *automaton, x api.Token) (string, api.Errno) {
		if len(a.rules) == 256 {
			return "", api.ErrFull
		}
		if x.Kind != 1 || x.Text != "allow" && x.Text != "deny" {
			return "", api.ErrVerdict
		}
		a.rules = append(a.rules, api.Rule{Allow: x.Text == "allow"})
		return "first", 0
	},
	"first": func(a *automaton, x api.Token) (string, api.Errno) {
		a.begin()
		return a.opening(x, x.Kind == 4)
	},
	"next": func(a *automaton, x api.Token) (string, api.Errno) {
		if x.Kind == 5 {
			return "verdict", 0
		}
		if len(a.rules[len(a.rules)-1].Conds) == 8 {
			return "", api.ErrFull
		}
		a.begin()
		return a.opening(x, x.Kind == 4)
	},
	"behind !": func(a *automaton, x api.Token) (string, api.Errno) { return a.opening(x, false) },
	"host":     func(a *automaton, x api.Token) (string, api.Errno) { return a.named(x, false) },
	"under":    func(a *automaton, x api.Token) (string, api.Errno) { return a.named(x, true) },
	"like":     func(a *automaton, x api.Token) (string, api.Errno) { return a.named(x, true) },
	"net": func(a *automaton, x api.Token) (string, api.Errno) {
		h, bits, is := wordsNet(x.Text)
		if x.Kind != 1 || !is {
			return "", api.ErrNet
		}
		a.last().Host, a.last().Bits = h, bits
		return "next", 0
	},
	"scripts": func(a *automaton, x api.Token) (string, api.Errno) {
		n, is := scriptOf[x.Text]
		if x.Kind != 1 || !is {
			return "", api.ErrScript
		}
		l := append(a.last().Scripts, n)
		slices.Sort(l)
		a.last().Scripts = slices.Compact(l)
		a.parts++
		return "behind scripts", 0
	},
	"behind scripts": func(a *automaton, x api.Token) (string, api.Errno) { return a.comma(x, "scripts") },
	"level": func(a *automaton, x api.Token) (string, api.Errno) {
		n, is := levelOf[x.Text]
		if x.Kind != 1 || !is {
			return "", api.ErrLevel
		}
		a.last().Level = n
		return "next", 0
	},
	"ports": func(a *automaton, x api.Token) (string, api.Errno) {
		p, is := wordsPorts(x.Text)
		if x.Kind != 1 || !is {
			return "", api.ErrPorts
		}
		a.last().Ports = append(a.last().Ports, p)
		a.parts++
		return "behind ports", 0
	},
	"behind ports": func(a *automaton, x api.Token) (string, api.Errno) { return a.comma(x, "ports") },
}

// begin puts a condition behind those of the last rule; last is that one.
func (a *automaton) begin() {
	r := &a.rules[len(a.rules)-1]
	r.Conds = append(r.Conds, api.Cond{})
	a.parts = 0
}

func (a *automaton) last() *api.Cond {
	r := a.rules[len(a.rules)-1]
	return &r.Conds[len(r.Conds)-1]
}

func (a *automaton) opening(x api.Token, not bool) (string, api.Errno) {
	if not {
		a.last().Not = true
		return "behind !", 0
	}
	n, is := kindOf[x.Text]
	if x.Kind != 1 || !is {
		return "", api.ErrCond
	}
	a.last().Kind = n
	if x.Text == "any" {
		return "next", 0
	}
	return x.Text, 0
}

func (a *automaton) named(x api.Token, domain bool) (string, api.Errno) {
	h, is := wordsName(x.Text)
	if x.Kind != 1 && x.Kind != 2 || !is || domain && h.Kind != 1 {
		return "", api.ErrName
	}
	a.last().Host = h
	return "next", 0
}

func (a *automaton) comma(x api.Token, list string) (string, api.Errno) {
	if x.Kind != 3 {
		return "", 0
	}
	if a.parts == 16 {
		return "", api.ErrFull
	}
	return list, 0
}

func wordsParse(text string) ([]api.Rule, api.Fault) {
	tokens, f := lex.Lex(text)
	if f.Err != 0 {
		return nil, f
	}
	a := automaton{state: "verdict"}
	for _, x := range tokens {
		next, e := states[a.state](&a, x)
		if next == "" && e == 0 {
			next, e = states["next"](&a, x)
		}
		if e != 0 {
			return nil, api.Fault{Err: e, Line: x.Line, At: x.At}
		}
		a.state = next
	}
	return a.rules, api.Fault{}
}

// wordsName is the host for which a name stands.
func wordsName(s string) (api.Host, bool) {
	h, e := host.Parse(s, true)
	if e != api.OK {
		return api.Host{}, false
	}
	h, e = canon.Host(h)
	return h, e == api.OK
}

func wordsNet(s string) (api.Host, uint8, bool) {
	m := netForm.FindStringSubmatch(s)
	if m == nil {
		return api.Host{}, 0, false
	}
	h, e := host.Parse(m[1], true)
	bits, err := strconv.Atoi(m[2])
	if e != api.OK || err != nil || bits > 255 || !wordsIsNet(h, uint8(bits)) {
		return api.Host{}, 0, false
	}
	return h, uint8(bits), true
}

func wordsIsNet(h api.Host, bits uint8) bool {
	var a netip.Addr
	switch h.Kind {
	case 2:
		a = netip.AddrFrom4([4]byte{byte(h.Four >> 24), byte(h.Four >> 16), byte(h.Four >> 8), byte(h.Four)})
	case 3:
		var b [16]byte
		for i := range b {
			b[i] = byte(h.Six[i/2] >> (8 - i%2*8))
		}
		a = netip.AddrFrom16(b)
	}
	p, err := a.Prefix(int(bits))
	return a.IsValid() && err == nil && p.Addr() == a
}

func wordsPorts(s string) (api.Ports, bool) {
	m := portsForm.FindStringSubmatch(s)
	if m == nil {
		return api.Ports{}, false
	}
	if m[2] == "" {
		m[2] = m[1]
	}
	from, err := strconv.Atoi(m[1])
	to, wrong := strconv.Atoi(m[2])
	if err != nil || wrong != nil || from == 0 || from > to || to > 65535 {
		return api.Ports{}, false
	}
	return api.Ports{From: uint16(from), To: uint16(to)}, true
}

// fieldsOf is which fields a kind has.
var fieldsOf = map[uint8]string{1: "", 2: "host", 3: "host", 4: "host", 5: "host bits", 6: "scripts", 7: "level", 8: "ports"}

func wordsMay(r api.Rule) bool {
	if len(r.Conds) < 1 || len(r.Conds) > 8 {
		return false
	}
	for _, c := range r.Conds {
		if !wordsMayCond(c) {
			return false
		}
	}
	return true
}

func wordsMayCond(c api.Cond) bool {
	fields, is := fieldsOf[c.Kind]
	if !is {
		return false
	}
	set := map[string]bool{"host": c.Host != api.Host{}, "bits": c.Bits > 0, "scripts": len(c.Scripts) > 0, "level": c.Level > 0, "ports": len(c.Ports) > 0}
	for field, its := range set {
		if its && !strings.Contains(fields, field) {
			return false
		}
	}
	h, e := canon.Host(c.Host)
	if strings.Contains(fields, "host") && (e != api.OK || h != c.Host) {
		return false
	}
	switch c.Kind {
	case 3, 4:
		return h.Kind == 1
	case 5:
		return wordsIsNet(c.Host, c.Bits)
	case 6:
		for i, s := range c.Scripts {
			if wordOf(scriptOf, s) == "?" || i > 0 && c.Scripts[i-1] >= s {
				return false
			}
		}
		return len(c.Scripts) >= 1 && len(c.Scripts) <= 16
	case 7:
		return wordOf(levelOf, c.Level) != "?"
	case 8:
		for _, p := range c.Ports {
			if p.From == 0 || p.From > p.To {
				return false
			}
		}
		return len(c.Ports) >= 1 && len(c.Ports) <= 16
	}
	return true
}

func wordsText(l []api.Rule) (string, api.Errno) {
	if len(l) > 256 {
		return "", api.ErrFull
	}
	var b strings.Builder
	for _, r := range l {
		if !wordsMay(r) {
			return "", api.ErrArg
		}
		b.WriteString(map[bool]string{true: "allow", false: "deny"}[r.Allow])
		for _, c := range r.Conds {
			b.WriteString(" " + strings.Repeat("!", map[bool]int{true: 1}[c.Not]) + wordOf(kindOf, c.Kind) + wordsNeeded(c))
		}
		b.WriteString("\n")
	}
	if b.Len() > 65536 {
		return "", api.ErrLong
	}
	return b.String(), api.OK
}

// wordsNeeded is what stands behind a condition's word, with the blank ahead of it. (No domain has a sign that ends a word: what names layer 3 lets through is told in TestP16_2NamesAsTexts.)
func wordsNeeded(c api.Cond) string {
	var parts []string
	switch c.Kind {
	case 2, 3, 4:
		parts = []string{host.Text(c.Host)}
	case 5:
		parts = []string{fmt.Sprintf("%s/%d", host.Text(c.Host), c.Bits)}
	case 6:
		for _, s := range c.Scripts {
			parts = append(parts, wordOf(scriptOf, s))
		}
	case 7:
		parts = []string{wordOf(levelOf, c.Level)}
	case 8:
		for _, p := range c.Ports {
			parts = append(parts, strings.TrimSuffix(fmt.Sprintf("%d-%d", p.From, p.To), fmt.Sprintf("-%d", p.From)))
		}
	}
	if parts == nil {
		return ""
	}
	return " " + strings.Join(parts, ", ")
}

// byWords holds Parse of text to the chapter's words, and what it answers to what follows from them; it tells whether text has rules, or a fault.
func byWords(t *testing.T, text string) bool {
	t.Helper()
	want, f := wordsParse(text)
	parsed(t, text, want, f)
	if f.Err == api.OK {
		told(t, want)
	}
	return f.Err == api.OK
}

// told holds May and Text of these rules to the chapter's words; what is written is read as them.
func told(t *testing.T, l []api.Rule) {
	t.Helper()
	for _, r := range l {
		if got, want := May(r), wordsMay(r); got != want {
			t.Errorf("May(%+v): %v", r, got)
		}
	}
	want, e := wordsText(l)
	writes(t, l, want, e)
	if e == api.OK {
		parsed(t, want, l, api.Fault{})
	}
}

// parsed holds Parse to what it must answer.
func parsed(t *testing.T, text string, want []api.Rule, f api.Fault) {
	t.Helper()
	if got, fault := Parse(text); !same(got, want) || fault != f {
		t.Errorf("Parse(%.300q): %.600s, %v, not %.600s, %v", text, fmt.Sprintf("%+v", got), fault, fmt.Sprintf("%+v", want), f)
	}
}

// reads holds Parse of text to these rules.
func reads(t *testing.T, text string, want ...api.Rule) {
	t.Helper()
	parsed(t, text, want, api.Fault{})
}

// readsOne holds Parse of a line of this one condition to it, with and without a !, alone and beside others.
func readsOne(t *testing.T, text string, want api.Cond) {
	t.Helper()
	reads(t, "deny "+text, denies(want))
	reads(t, "allow !"+text, allows(not(want)))
	reads(t, "allow any "+text+" any", allows(anyOf(), want, anyOf()))
	reads(t, "deny !any!"+text+"!any\n\nallow "+text+"\n", denies(not(anyOf()), not(want), not(anyOf())), allows(want))
}

// refuses holds Parse of text to that fault, and to no rules.
func refuses(t *testing.T, text string, e api.Errno, line, at int) {
	t.Helper()
	parsed(t, text, nil, api.Fault{Err: e, Line: line, At: at})
}

// refusesAt holds Parse of front and each of these to that error, right behind front, with more behind and without.
func refusesAt(t *testing.T, front string, e api.Errno, list ...string) {
	t.Helper()
	for _, s := range list {
		refuses(t, front+s, e, 1, len(front))
		refuses(t, front+s+" any\nallow any\n", e, 1, len(front))
		refuses(t, "allow any # x\n\n"+front+s+"\npermit", e, 3, len(front))
	}
}

// writes holds Text to what it must answer.
func writes(t *testing.T, l []api.Rule, want string, e api.Errno) {
	t.Helper()
	if got, err := Text(l); got != want || err != e {
		t.Errorf("Text(%.600s): %.300q, %v, not %.300q, %v", fmt.Sprintf("%+v", l), got, err, want, e)
	}
}

// may holds May of a rule of each of these conditions, alone and beside others, to what it must answer, and Text of it, too.
func may(t *testing.T, want bool, list ...api.Cond) {
	t.Helper()
	for _, c := range list {
		for _, r := range []api.Rule{allows(c), denies(c), allows(not(c)), allows(c, anyOf()), denies(anyOf(), c), allows(anyOf(), c, anyOf())} {
			if May(r) != want {
				t.Errorf("May(%+v): not %v", r, want)
			}
			if !want {
				writes(t, []api.Rule{r}, "", api.ErrArg)
				writes(t, []api.Rule{allows(anyOf()), r, allows(anyOf())}, "", api.ErrArg)
			} else {
				told(t, []api.Rule{r})
			}
		}
	}
}

// same tells whether these are the same rules; a list that is nil and one without elements are.
func same(a, b []api.Rule) bool {
	return slices.EqualFunc(a, b, func(x, y api.Rule) bool {
		return x.Allow == y.Allow && slices.EqualFunc(x.Conds, y.Conds, func(c, d api.Cond) bool {
			return c.Kind == d.Kind && c.Not == d.Not && c.Host == d.Host && c.Bits == d.Bits && slices.Equal(c.Scripts, d.Scripts) && c.Level == d.Level && slices.Equal(c.Ports, d.Ports)
		})
	})
}

// copied is these rules, of memory of their own.
func copied(l []api.Rule) []api.Rule {
	out := slices.Clone(l)
	for i := range out {
		out[i].Conds = slices.Clone(out[i].Conds)
		for j := range out[i].Conds {
			c := &out[i].Conds[j]
			c.Scripts, c.Ports, c.Host.Name = slices.Clone(c.Scripts), slices.Clone(c.Ports), strings.Clone(c.Host.Name)
		}
	}
	return out
}

func allows(l ...api.Cond) api.Rule { return api.Rule{Allow: true, Conds: l} }

func denies(l ...api.Cond) api.Rule { return api.Rule{Conds: l} }

func conds(l ...api.Cond) []api.Cond { return l }

func not(c api.Cond) api.Cond {
	c.Not = true
	return c
}

func anyOf() api.Cond { return api.Cond{Kind: api.CondAny} }

func hostOf(h api.Host) api.Cond { return api.Cond{Kind: api.CondHost, Host: h} }

func underOf(name string) api.Cond { return api.Cond{Kind: api.CondUnder, Host: domainOf(name)} }

func likeOf(name string) api.Cond { return api.Cond{Kind: api.CondLike, Host: domainOf(name)} }

func netOf(h api.Host, bits uint8) api.Cond {
	return api.Cond{Kind: api.CondNet, Host: h, Bits: bits}
}

func scriptsOf(l ...uint8) api.Cond { return api.Cond{Kind: api.CondScripts, Scripts: l} }

func levelAt(n uint8) api.Cond { return api.Cond{Kind: api.CondLevel, Level: n} }

func portsOf(l ...api.Ports) api.Cond { return api.Cond{Kind: api.CondPorts, Ports: l} }

func port(n uint16) api.Ports { return api.Ports{From: n, To: n} }

func domainOf(name string) api.Host { return api.Host{Kind: api.Domain, Name: name} }

func fourOf(a uint32) api.Host { return api.Host{Kind: api.Four, Four: a} }

func sixOf(a ...uint16) api.Host {
	h := api.Host{Kind: api.Six}
	copy(h.Six[:], a)
	return h
}

// long is a row of these, of so many bytes.
func long(s string, to int) string { return strings.Repeat(s, to/len(s)+1)[:to] }

// nameOf is a name of n bytes, n from 193 to 255, of four labels, of which the last one is the shortest.
func nameOf(n int) string {
	return strings.Repeat(long("a", 63)+".", 3) + long("b", n-192)
}

// byPercent is s with each byte told by a percent sign.
func byPercent(s string) string {
	var b strings.Builder
	for i := range len(s) {
		fmt.Fprintf(&b, "%%%02x", s[i])
	}
	return b.String()
}

// byNumber is s in quotes with each code point told by its number.
func byNumber(s string) string {
	var b strings.Builder
	for _, r := range s {
		fmt.Fprintf(&b, `\u{%X}`, r)
	}
	return `"` + b.String() + `"`
}

// wide is s with its letters, digits, hyphens and dots as wide ones.
func wide(s string) string {
	return strings.Map(func(c rune) rune {
		if c == '_' || c <= ' ' || c >= 0x7F {
			return c
		}
		return c - '!' + 0xFF01
	}, s)
}

// inside tells whether part is memory of s.
func inside(part, s string) bool {
	a, b := uintptr(unsafe.Pointer(unsafe.StringData(part))), uintptr(unsafe.Pointer(unsafe.StringData(s)))
	return part != "" && s != "" && a >= b && a < b+uintptr(len(s))
}

// texts calls f with every text of at most n of these, with a blank between.
func texts(n int, these []string, f func(s string)) {
	var grow func(s string, left int)
	grow = func(s string, left int) {
		f(s)
		if left == 0 {
			return
		}
		for _, one := range these {
			grow(s+" "+one, left-1)
		}
	}
	grow("", n)
}

// picker picks; the same seed picks the same.
func picker(seed uint64) *rand.Rand { return rand.New(rand.NewPCG(seed, 16)) }

func one[T any](pick *rand.Rand, these []T) T { return these[pick.IntN(len(these))] }

// lineOf is a line that is nearly a rule's: mostly what each place asks for, now and then something else.
func lineOf(pick *rand.Rand) string {
	var b strings.Builder
	put := func(right ...string) {
		if pick.IntN(60) == 0 {
			right = others
		}
		b.WriteString(one(pick, right) + one(pick, []string{" ", " ", " ", "  ", "\t"}))
	}
	list := func(right []string) {
		put(right...)
		for pick.IntN(3) > 0 {
			put(",")
			put(right...)
		}
	}
	put("allow", "deny")
	for range pick.IntN(4) + 1 + pick.IntN(12)/11*6 {
		if pick.IntN(3) == 0 {
			put("!")
		}
		switch kind := one(pick, []string{"any", "host", "under", "like", "net", "scripts", "level", "ports"}); kind {
		case "any":
			put(kind)
		case "host", "under", "like":
			put(kind)
			put(names...)
		case "net":
			put(kind)
			put(nets...)
		case "scripts":
			put(kind)
			list(scripts)
		case "level":
			put(kind)
			put("ascii", "one", "high", "middle", "any")
		case "ports":
			put(kind)
			list(ports)
		}
	}
	return b.String() + one(pick, []string{"", "", "# any !", "#"})
}

// anyRule is one that may be.
func anyRule(pick *rand.Rand) api.Rule {
	r := api.Rule{Allow: pick.IntN(2) == 0}
	for range pick.IntN(8) + 1 {
		c := anyCond(pick)
		c.Not = pick.IntN(2) == 0
		r.Conds = append(r.Conds, c)
	}
	return r
}

func anyCond(pick *rand.Rand) api.Cond {
	domains := []string{"a", "b.c", "xn--bcher-kva.de", "-", "_x.y", "allow", "any", "1.a", "0x.b-", nameOf(253), long("a", 63)}
	six := sixOf()
	switch kind := uint8(pick.IntN(8) + 1); kind {
	case api.CondHost:
		return hostOf(one(pick, []api.Host{domainOf(one(pick, domains)), fourOf(pick.Uint32()), sixOf(uint16(pick.Uint32()), 0, 0, 5), sixOf()}))
	case api.CondUnder:
		return underOf(one(pick, domains))
	case api.CondLike:
		return likeOf(one(pick, domains))
	case api.CondNet:
		if bits := pick.IntN(33); pick.IntN(2) == 0 {
			return netOf(fourOf(uint32(uint64(pick.Uint32())>>(32-bits)<<(32-bits))), uint8(bits))
		}
		bits := pick.IntN(129)
		for i := range bits {
			six.Six[i/16] |= uint16(pick.IntN(2)) << (15 - i%16)
		}
		return netOf(six, uint8(bits))
	case api.CondScripts:
		l := []uint8{2, 3, 4, 5, 6, 7, 8, 9, 10, 11}
		pick.Shuffle(len(l), func(i, j int) { l[i], l[j] = l[j], l[i] })
		l = l[:pick.IntN(10)+1]
		slices.Sort(l)
		return scriptsOf(l...)
	case api.CondLevel:
		return levelAt(uint8(pick.IntN(5) + 1))
	case api.CondPorts:
		var l []api.Ports
		for range pick.IntN(16) + 1 {
			from := pick.IntN(65535) + 1
			l = append(l, api.Ports{From: uint16(from), To: uint16(from + pick.IntN(2)*pick.IntN(65536-from))})
		}
		return portsOf(l...)
	}
	return anyOf()
}
