package trie

import (
	"fmt"
	"math/rand/v2"
	"slices"
	"strconv"
	"strings"
	"testing"

	"portcullis/api"
	"portcullis/canon"
	"portcullis/judge"
	"portcullis/rule"
)

// What the chapter's words say, done word by word and slowly, so that the tests hold the program to the text. What may be is asked of layers 14 and 16, what holds and what decides of layer 17.

func wordsCompile(l []api.Rule) api.Errno {
	if len(l) > 256 {
		return api.ErrFull
	}
	for _, r := range l {
		if !rule.May(r) {
			return api.ErrArg
		}
	}
	return api.OK
}

func wordsIsCandidate(r api.Rule, x api.Target) bool {
	is := true
	for _, c := range r.Conds {
		ofThese := c.Kind == 2 || c.Kind == 3 || c.Kind == 4 || c.Kind == 5
		if !c.Not && ofThese && !judge.Holds(c, x) {
			is = false
		}
	}
	return is
}

func wordsCandidates(l []api.Rule, x api.Target) ([]int, api.Errno) {
	if !canon.May(x) {
		return nil, api.ErrArg
	}
	var out []int
	for i, r := range l {
		if wordsIsCandidate(r, x) {
			out = append(out, i)
		}
	}
	return out, api.OK
}

func wordsJudge(l []api.Rule, x api.Target) (bool, int, api.Errno) {
	if !canon.May(x) {
		return false, 0, api.ErrArg
	}
	return judge.Judge(l, x)
}

// of is a trie of rules that may be.
func of(t *testing.T, l []api.Rule) *Trie {
	t.Helper()
	x, e := Compile(l)
	if x == nil || e != api.OK {
		t.Fatalf("Compile(%.600s): %v %v", told(l), x, e)
	}
	return x
}

// refused holds Compile to that error.
func refused(t *testing.T, l []api.Rule, want api.Errno) {
	t.Helper()
	if x, e := Compile(l); x != nil || e != want {
		t.Errorf("Compile(%.600s): %v %v, not %v", told(l), x, e, want)
	}
	if e := wordsCompile(l); e != want {
		t.Errorf("by the words %.600s: %v, not %v", told(l), e, want)
	}
}

func told(these any) string { return fmt.Sprintf("%+v", these) }

// byWords holds all calls of a trie to the chapter's words of its rules.
func byWords(t *testing.T, of *Trie, l []api.Rule, x api.Target) {
	t.Helper()
	candidates, e := wordsCandidates(l, x)
	has(t, of, x, candidates, e)
	allow, which, e := wordsJudge(l, x)
	decides(t, of, x, allow, which, e)
	keeps(t, of, l)
}

// has holds Candidates to what they must be.
func has(t *testing.T, of *Trie, x api.Target, want []int, wantE api.Errno) {
	t.Helper()
	if got, e := of.Candidates(x); !slices.Equal(got, want) || e != wantE {
		t.Errorf("Candidates(%+v) of %.600s: %v %v, not %v %v", x, told(of.Rules()), got, e, want, wantE)
	}
}

// decides holds Judge to what it must answer.
func decides(t *testing.T, of *Trie, x api.Target, allow bool, which int, e api.Errno) {
	t.Helper()
	if a, w, err := of.Judge(x); a != allow || w != which || err != e {
		t.Errorf("Judge(%+v) of %.600s: %v %v %v, not %v %v %v", x, told(of.Rules()), a, w, err, allow, which, e)
	}
}

// keeps holds Rules to what they must be.
func keeps(t *testing.T, of *Trie, want []api.Rule) {
	t.Helper()
	if got := of.Rules(); told(got) != told(want) || len(got) != len(want) {
		t.Errorf("Rules: %.600s, not %.600s", told(got), told(want))
	}
}

// judged holds a trie of these lines to what it must answer of a target: the candidates, with blanks between, and the one that decides.
func judged(t *testing.T, lines, target, candidates string, allow bool, which int) {
	t.Helper()
	l, x := rules(t, lines), to(t, target)
	of := of(t, l)
	has(t, of, x, numbers(t, candidates), api.OK)
	decides(t, of, x, allow, which, api.OK)
	byWords(t, of, l, x)
}

func numbers(t *testing.T, s string) (l []int) {
	t.Helper()
	for f := range strings.FieldsSeq(s) {
		n, err := strconv.Atoi(f)
		if err != nil {
			t.Fatal(err)
		}
		l = append(l, n)
	}
	return l
}

// holdsOf holds a rule of this condition alone to being a candidate of the first targets (they stand with blanks between), and of none of the others; and one with a ! to being a candidate of all of them.
func holdsOf(t *testing.T, line, of, notOf string) {
	t.Helper()
	c := cond(t, line)
	for i, targets := range []string{of, notOf} {
		for _, s := range strings.Fields(targets) {
			asked(t, c, to(t, s), i == 0)
		}
	}
}

// asked holds rules of this condition to being candidates of a target, or to being none.
func asked(t *testing.T, c api.Cond, x api.Target, want bool) {
	t.Helper()
	l := []api.Rule{{Allow: true, Conds: []api.Cond{c}}, {Conds: []api.Cond{not(c)}}, {Conds: []api.Cond{c, c}}}
	candidates, which := []int{1}, 1
	if want {
		candidates, which = []int{0, 1, 2}, 0
	}
	of := of(t, l)
	has(t, of, x, candidates, api.OK)
	decides(t, of, x, want, which, api.OK)
	byWords(t, of, l, x)
}

// to is the target of that authority, whose port is 80, if it has none.
func to(t *testing.T, s string) api.Target {
	t.Helper()
	x, e := canon.Authority(s, 80)
	if e != api.OK {
		t.Fatalf("%q: %v", s, e)
	}
	return x
}

func rules(t *testing.T, lines string) []api.Rule {
	t.Helper()
	l, f := rule.Parse(lines)
	if f.Err != api.OK {
		t.Fatalf("%q: %v", lines, f)
	}
	return l
}

// cond is the one condition of this text.
func cond(t *testing.T, s string) api.Cond {
	t.Helper()
	return rules(t, "allow "+s)[0].Conds[0]
}

func not(c api.Cond) api.Cond {
	c.Not = !c.Not
	return c
}

func aim(h api.Host, port uint16) api.Target { return api.Target{Host: h, Port: port} }

func fourOf(a uint32) api.Host { return api.Host{Kind: api.Four, Four: a} }

func sixOf(pieces ...uint16) api.Host { return api.Host{Kind: api.Six, Six: [8]uint16(pieces)} }

func domainOf(name string) api.Host { return api.Host{Kind: api.Domain, Name: name} }

func netOf(h api.Host, bits int) api.Cond {
	return api.Cond{Kind: api.CondNet, Host: h, Bits: uint8(bits)}
}

// bitsOf is an address as noughts and ones.
func bitsOf(h api.Host) string {
	if h.Kind == api.Four {
		return fmt.Sprintf("%032b", h.Four)
	}
	s := ""
	for _, piece := range h.Six {
		s += fmt.Sprintf("%016b", piece)
	}
	return s
}

// head is the address of which no bit is set behind the first ones, and flipped the one that has that one bit the other way round.
func head(h api.Host, bits int) api.Host {
	for n := bits; n < len(bitsOf(h)); n++ {
		if bitsOf(h)[n] == '1' {
			h = flipped(h, n)
		}
	}
	return h
}

func flipped(h api.Host, bit int) api.Host {
	if h.Kind == api.Four {
		h.Four ^= 1 << (31 - bit)
		return h
	}
	h.Six[bit/16] ^= 0x8000 >> (bit % 16)
	return h
}

// long is a row of these, of so many bytes.
func long(s string, to int) string { return strings.Repeat(s, to/len(s)+1)[:to] }

// same is these rules, of memory of their own.
func same(l []api.Rule) []api.Rule {
	out := slices.Clone(l)
	for i := range out {
		out[i].Conds = slices.Clone(out[i].Conds)
		for j := range out[i].Conds {
			c := &out[i].Conds[j]
			c.Scripts, c.Ports = slices.Clone(c.Scripts), slices.Clone(c.Ports)
		}
	}
	return out
}

// spoil changes whatever rules have, in place.
func spoil(l []api.Rule) {
	for i := range l {
		for j := range l[i].Conds {
			c := &l[i].Conds[j]
			for k := range c.Scripts {
				c.Scripts[k] = 99
			}
			for k := range c.Ports {
				c.Ports[k] = api.Ports{From: 9, To: 7}
			}
			*c = api.Cond{Kind: 77, Not: !c.Not, Host: domainOf("spoilt"), Bits: 9, Level: 9}
		}
		l[i] = api.Rule{Allow: !l[i].Allow}
	}
}

// picker picks; the same seed picks the same.
func picker(seed uint64) *rand.Rand { return rand.New(rand.NewPCG(seed, 18)) }

func one[T any](pick *rand.Rand, these []T) T { return these[pick.IntN(len(these))] }

// anyRules is some lines of some of the conditions each.
func anyRules(t *testing.T, pick *rand.Rand, most int) []api.Rule {
	t.Helper()
	var b strings.Builder
	for range pick.IntN(most) {
		b.WriteString(one(pick, []string{"allow", "deny"}))
		for range 1 + pick.IntN(3) {
			b.WriteString(one(pick, []string{" ", " ", " !"}) + one(pick, conds))
		}
		b.WriteString("\n")
	}
	return rules(t, b.String())
}
