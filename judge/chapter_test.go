package judge

import (
	"fmt"
	"math/rand/v2"
	"slices"
	"strings"
	"testing"

	"portcullis/api"
	"portcullis/canon"
	"portcullis/idna"
	"portcullis/rule"
	"portcullis/skel"
)

// What the chapter's words say, done word by word and slowly, so that the tests hold the program to the text. What may be is asked of layers 14 and 16, Unicode forms, skeletons, scripts and levels of layers 7 and 8.

// wordsAsk tells what each kind of condition asks of a target.
var wordsAsk = map[uint8]func(c api.Cond, x api.Target) bool{
	1: func(api.Cond, api.Target) bool { return true },
	2: func(c api.Cond, x api.Target) bool { return canon.Text(aim(c.Host, 1)) == canon.Text(aim(x.Host, 1)) },
	3: func(c api.Cond, x api.Target) bool {
		ours, its := strings.Split(c.Host.Name, "."), strings.Split(x.Host.Name, ".")
		for len(its) > len(ours) {
			its = its[1:]
		}
		return x.Host.Kind == 1 && slices.Equal(its, ours)
	},
	4: func(c api.Cond, x api.Target) bool {
		return x.Host.Kind == 1 && skel.Alike(wordsForm(x.Host.Name), wordsForm(c.Host.Name))
	},
	5: func(c api.Cond, x api.Target) bool {
		return x.Host.Kind == c.Host.Kind && strings.HasPrefix(bitsOf(x.Host), bitsOf(c.Host)[:c.Bits])
	},
	6: func(c api.Cond, x api.Target) bool {
		var all []uint8
		for _, label := range wordsLabels(x) {
			all = append(all, skel.Scripts(label)...)
		}
		for _, script := range c.Scripts {
			all = slices.DeleteFunc(all, func(its uint8) bool { return its == script })
		}
		return x.Host.Kind == 1 && len(all) == 0
	},
	7: func(c api.Cond, x api.Target) bool {
		greatest := uint8(0)
		for _, label := range wordsLabels(x) {
			greatest = max(greatest, skel.Level(label))
		}
		return x.Host.Kind == 1 && greatest <= c.Level
	},
	8: func(c api.Cond, x api.Target) bool {
		in := false
		for _, p := range c.Ports {
			for n := int(p.From); n <= int(p.To); n++ {
				in = in || n == int(x.Port)
			}
		}
		return in
	},
}

func wordsForm(name string) string {
	s, ok := idna.Unicode(name, false)
	if !ok {
		panic(name)
	}
	return s
}

func wordsLabels(x api.Target) []string { return strings.Split(wordsForm(x.Host.Name), ".") }

// bitsOf is an address as noughts and ones.
func bitsOf(h api.Host) string {
	if h.Kind == 2 {
		return fmt.Sprintf("%032b", h.Four)
	}
	s := ""
	for _, piece := range h.Six {
		s += fmt.Sprintf("%016b", piece)
	}
	return s
}

func wordsHolds(c api.Cond, x api.Target) bool {
	if !rule.May(api.Rule{Conds: []api.Cond{c}}) || !canon.May(x) {
		return false
	}
	if c.Not {
		return !wordsAsk[c.Kind](c, x)
	}
	return wordsAsk[c.Kind](c, x)
}

func wordsJudge(l []api.Rule, x api.Target) (bool, int, api.Errno) {
	if len(l) > 256 {
		return false, 0, api.ErrFull
	}
	which, wrong := -1, !canon.May(x)
	for i := len(l) - 1; i >= 0; i-- {
		wrong = wrong || !rule.May(l[i])
		many := 0
		for _, c := range l[i].Conds {
			if wordsHolds(c, x) {
				many++
			}
		}
		if many == len(l[i].Conds) {
			which = i
		}
	}
	switch {
	case wrong:
		return false, 0, api.ErrArg
	case which < 0:
		return false, -1, api.OK
	}
	return l[which].Allow, which, api.OK
}

// byWords holds Judge of these, and Holds of all their conditions, to the chapter's words.
func byWords(t *testing.T, l []api.Rule, x api.Target) {
	t.Helper()
	allow, which, e := wordsJudge(l, x)
	answers(t, l, x, allow, which, e)
	for _, r := range l {
		for _, c := range r.Conds {
			if got, want := Holds(c, x), wordsHolds(c, x); got != want {
				t.Errorf("Holds(%+v, %+v): %v", c, x, got)
			}
		}
	}
}

// answers holds Judge to what it must answer.
func answers(t *testing.T, l []api.Rule, x api.Target, allow bool, which int, e api.Errno) {
	t.Helper()
	if a, w, err := Judge(l, x); a != allow || w != which || err != e {
		t.Errorf("Judge(%.600s, %+v): %v %d %v, not %v %d %v", fmt.Sprintf("%+v", l), x, a, w, err, allow, which, e)
	}
}

// judged holds Judge of these lines to what it must answer of a target, and to the chapter's words.
func judged(t *testing.T, lines, target string, allow bool, which int) {
	t.Helper()
	l, x := rules(t, lines), to(t, target)
	answers(t, l, x, allow, which, api.OK)
	byWords(t, l, x)
}

// holdsOf holds Holds of this condition to true of the first targets, to false of the others (they stand with blanks between), and to the other way round with a !; and Judge of rules of it alone.
func holdsOf(t *testing.T, line, of, notOf string) {
	t.Helper()
	c := cond(t, line)
	for i, targets := range []string{of, notOf} {
		for _, s := range strings.Fields(targets) {
			asked(t, c, to(t, s), i == 0)
		}
	}
}

// asked holds Holds of this condition and the target to what it must answer.
func asked(t *testing.T, c api.Cond, x api.Target, want bool) {
	t.Helper()
	if Holds(c, x) != want || Holds(not(c), x) == want {
		t.Errorf("Holds(%+v, %s): not %v (or with Not not %v)", c, canon.Text(x), want, !want)
	}
	which := map[bool]int{true: 0, false: 1}
	l := []api.Rule{{Allow: true, Conds: []api.Cond{c}}, {Conds: []api.Cond{not(c)}}}
	byWords(t, l, x)
	answers(t, l, x, want, which[want], api.OK)
}

// neither holds Holds to false, with Not and without, and Judge to ErrArg: the condition, or the target, may not be.
func neither(t *testing.T, c api.Cond, x api.Target) {
	t.Helper()
	for _, one := range []api.Cond{c, not(c)} {
		if Holds(one, x) {
			t.Errorf("Holds(%+v, %+v)", one, x)
		}
		l := []api.Rule{{Allow: true, Conds: []api.Cond{one}}}
		answers(t, l, x, false, 0, api.ErrArg)
		byWords(t, l, x)
	}
}

// to is the target of that authority, whose port is 80, if it has none.
func to(t *testing.T, s string) api.Target {
	t.Helper()
	x, e := canon.Authority(s, 80)
	if e != api.OK {
		t.Fatalf("%q: %v", s, e)
	}
	return x
}

func rules(t *testing.T, lines string) []api.Rule {
	t.Helper()
	l, f := rule.Parse(lines)
	if f.Err != api.OK {
		t.Fatalf("%q: %v", lines, f)
	}
	return l
}

// cond is the one condition of this text.
func cond(t *testing.T, s string) api.Cond {
	t.Helper()
	return rules(t, "allow "+s)[0].Conds[0]
}

func not(c api.Cond) api.Cond {
	c.Not = !c.Not
	return c
}

func aim(h api.Host, port uint16) api.Target { return api.Target{Host: h, Port: port} }

func fourOf(a uint32) api.Host { return api.Host{Kind: api.Four, Four: a} }

func domainOf(name string) api.Host { return api.Host{Kind: api.Domain, Name: name} }

func netOf(h api.Host, bits int) api.Cond {
	return api.Cond{Kind: api.CondNet, Host: h, Bits: uint8(bits)}
}

// head is the address of which no bit is set behind the first ones, and flipped the one that has that one bit the other way round.
func head(h api.Host, bits int) api.Host {
	for n := bits; n < len(bitsOf(h)); n++ {
		if bitsOf(h)[n] == '1' {
			h = flipped(h, n)
		}
	}
	return h
}

func flipped(h api.Host, bit int) api.Host {
	if h.Kind == api.Four {
		h.Four ^= 1 << (31 - bit)
		return h
	}
	h.Six[bit/16] ^= 0x8000 >> (bit % 16)
	return h
}

// long is a row of these, of so many bytes.
func long(s string, to int) string { return strings.Repeat(s, to/len(s)+1)[:to] }

// copied is these rules, of memory of their own.
func copied(l []api.Rule) []api.Rule {
	out := slices.Clone(l)
	for i := range out {
		out[i].Conds = slices.Clone(out[i].Conds)
		for j := range out[i].Conds {
			c := &out[i].Conds[j]
			c.Scripts, c.Ports, c.Host.Name = slices.Clone(c.Scripts), slices.Clone(c.Ports), strings.Clone(c.Host.Name)
		}
	}
	return out
}

// picker picks; the same seed picks the same.
func picker(seed uint64) *rand.Rand { return rand.New(rand.NewPCG(seed, 17)) }

func one[T any](pick *rand.Rand, these []T) T { return these[pick.IntN(len(these))] }

// anyRules is some lines of some of the conditions each.
func anyRules(t *testing.T, pick *rand.Rand) []api.Rule {
	t.Helper()
	var b strings.Builder
	for range pick.IntN(9) {
		b.WriteString(one(pick, []string{"allow", "deny"}))
		for range 1 + pick.IntN(3) {
			b.WriteString(one(pick, []string{" ", " !"}) + one(pick, conds))
		}
		b.WriteString("\n")
	}
	return rules(t, b.String())
}
