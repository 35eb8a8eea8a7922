package unidata

import (
	"math"
	"slices"
	"testing"

	"portcullis/api"
)

const top rune = api.MaxRune

// wrong is numbers that are no code point, or no scalar.
var wrong = []rune{-1, -2, -0x41, -0x61, -0x300, math.MinInt32, math.MinInt32 + 1, top + 1, top + 2, top + 0x61, 0x110061, 0x7FFFFFFE, math.MaxInt32, 0xD800, 0xDBFF, 0xDC00, 0xDFFF}

// known is the six answers of the table.
type known struct {
	status, bidi, joining, script, class uint8
	mark                                 bool
}

func ask(r rune) known {
	return known{Status(r), Bidi(r), Joining(r), Script(r), Class(r), Mark(r)}
}

func (l line) known() known {
	return known{l.status, l.bidi, l.j, l.script, l.class, l.mark}
}

// nothing is what is told of a code point that is not in the table.
var nothing = known{api.Disallowed, api.BidiON, api.JoinU, api.Common, 0, false}

// byTable is what the chapter's table tells, code point by code point.
func byTable(t *testing.T) map[rune]line {
	t.Helper()
	m := map[rune]line{}
	for _, l := range lines(t) {
		for r := l.lo; r <= l.hi; r++ {
			if _, twice := m[r]; twice {
				t.Fatalf("%x is in two lines", r)
			}
			m[r] = l
		}
	}
	return m
}

func answers(t *testing.T, what string, r rune, got, want []rune) {
	t.Helper()
	if !slices.Equal(got, want) {
		t.Errorf("%s(%x): %x, not %x", what, r, got, want)
	}
}

func TestP3_1Examples(t *testing.T) {
	for r, s := range map[rune]uint8{0x61: api.Valid, 0x41: api.Mapped, 0x2F: api.Disallowed, 0xAD: api.Ignored, 0xDF: api.Deviation} {
		if Status(r) != s {
			t.Errorf("Status(%x): %d, not %d", r, Status(r), s)
		}
	}
	if Bidi(0x5D0) != api.BidiR || Joining(0x628) != api.JoinD || Script(0x3041) != api.Hiragana || Class(0x323) != 220 {
		t.Error(Bidi(0x5D0), Joining(0x628), Script(0x3041), Class(0x323))
	}
}

// Both ends of each range, what stands just outside them, and all code points besides.
func TestP3_1AllCodePoints(t *testing.T) {
	table := byTable(t)
	for r := rune(0); r <= top; r++ {
		want := nothing
		if l, in := table[r]; in {
			want = l.known()
		}
		if got := ask(r); got != want {
			t.Errorf("%x: %v, not %v", r, got, want)
		}
	}
}

func TestP3_1Edges(t *testing.T) {
	all := lines(t)
	for i, l := range all {
		before, behind := nothing, nothing
		if i > 0 && all[i-1].hi == l.lo-1 {
			before = all[i-1].known()
		}
		if i < len(all)-1 && all[i+1].lo == l.hi+1 {
			behind = all[i+1].known()
		}
		for r, want := range map[rune]known{l.lo - 1: before, l.lo: l.known(), l.hi: l.known(), l.hi + 1: behind} {
			if got := ask(r); got != want {
				t.Errorf("%x, of %x to %x: %v, not %v", r, l.lo, l.hi, got, want)
			}
		}
	}
}

func TestP3_1NoCodePoints(t *testing.T) {
	for _, r := range append([]rune{0, top}, wrong...) {
		if got := ask(r); got != nothing {
			t.Errorf("%x: %v", r, got)
		}
	}
}

func TestP3_2Examples(t *testing.T) {
	for r, want := range map[rune][]rune{0xC4: {0xE4}, 0x1E9E: {0x73, 0x73}, 0xFF21: {0x61}, 0x2F: nil} {
		answers(t, "Map", r, Map(r), want)
	}
}

func TestP3_2AllCodePoints(t *testing.T) {
	table := byTable(t)
	for r := rune(0); r <= top; r++ {
		var want []rune
		switch l := table[r]; l.status {
		case api.Mapped:
			want = l.mapping(t, r)
		case api.Valid, api.Deviation:
			want = []rune{r}
		}
		answers(t, "Map", r, Map(r), want)
	}
}

func TestP3_2NoCodePoints(t *testing.T) {
	for _, r := range wrong {
		answers(t, "Map", r, Map(r), nil)
	}
}

func TestP3_3Examples(t *testing.T) {
	answers(t, "Decomp", 0x1E69, Decomp(0x1E69), []rune{0x1E63, 0x307})
	answers(t, "Decomp", 0x212B, Decomp(0x212B), []rune{0xC5})
	if r, is := Pair(0x73, 0x323); r != 0x1E63 || !is {
		t.Errorf("Pair(73, 323): %x %v", r, is)
	}
	if r, is := Pair(0x61, 0x61); r != 0 || is {
		t.Errorf("Pair(61, 61): %x %v", r, is)
	}
	for r, want := range map[rune][]rune{0x6D: {0x72, 0x6E}, 0x430: {0x61}, 0x62: {0x62}} {
		answers(t, "Like", r, Like(r), want)
	}
}

func TestP3_3DecompAndLikeOfAll(t *testing.T) {
	parts, likes := toldPairs(t), toldLikes(t)
	for r, one := range toldSingles(t) {
		parts[r] = one
	}
	for _, r := range slices.Concat(wrong, upTo(top)) {
		answers(t, "Decomp", r, Decomp(r), parts[r])
		want := []rune{r}
		if l, is := likes[r]; is {
			want = l
		}
		answers(t, "Like", r, Like(r), want)
	}
}

func upTo(last rune) []rune {
	l := make([]rune, last+1)
	for i := range l {
		l[i] = rune(i)
	}
	return l
}

// Each two of what may be a pair's first or second one, of their neighbours, and of what is no code point at all.
func TestP3_3PairOfAnyTwo(t *testing.T) {
	whole := map[[2]rune]rune{}
	asked := slices.Concat(wrong, []rune{0, 1, top, 0x2126, 0x212A, 0x212B, 0x4B})
	for r, p := range toldPairs(t) {
		whole[[2]rune(p)] = r
		for d := rune(-1); d <= 1; d++ {
			asked = append(asked, r+d, p[0]+d, p[1]+d)
		}
	}
	slices.Sort(asked)
	asked = slices.Compact(asked)
	for _, a := range asked {
		for _, b := range asked {
			want, wantIs := whole[[2]rune{a, b}]
			if r, is := Pair(a, b); r != want || is != wantIs {
				t.Errorf("Pair(%x, %x): %x %v, not %x %v", a, b, r, is, want, wantIs)
			}
		}
	}
}

func TestP3_3PairRefuses(t *testing.T) {
	for _, p := range [][2]rune{{0x300, 0x41}, {0x323, 0x73}, {0x307, 0x1E63}, {0x3A9, 0}, {0, 0x3A9}, {0x4B, 0}, {0xC5, 0}, {0x4B, 0x4B}, {0, 0}, {-1, 0x301}, {0x61, -1}, {-0x41, -0x300}, {0x61, top + 1}, {0x110061, 0x300}, {0xD800, 0xDC00}, {0x41, 0x304}, {0x61, 0x328}} {
		if r, is := Pair(p[0], p[1]); r != 0 || is {
			t.Errorf("Pair(%x, %x): %x %v", p[0], p[1], r, is)
		}
	}
}

func TestP3_4Maps(t *testing.T) {
	for r := rune(0); r <= top; r++ {
		if Status(r) != api.Mapped {
			continue
		}
		if len(Map(r)) == 0 {
			t.Errorf("%x is mapped to nothing", r)
		}
		for _, to := range Map(r) {
			if s := Status(to); s == api.Mapped || s == api.Ignored || Script(to) != Script(r) {
				t.Errorf("%x is mapped to %x: status %d, script %d", r, to, s, Script(to))
			}
		}
	}
}

func TestP3_4Classes(t *testing.T) {
	n := 0
	for r := rune(0); r <= top; r++ {
		if Class(r) == 0 {
			continue
		}
		n++
		if Status(r) != api.Valid || !Mark(r) || Bidi(r) != api.BidiNSM || Joining(r) != api.JoinT {
			t.Errorf("%x: %v", r, ask(r))
		}
	}
	if n != 14 {
		t.Errorf("%d have a class", n)
	}
}

func TestP3_4Likes(t *testing.T) {
	for r := rune(0); r <= top; r++ {
		for _, l := range Like(r) {
			answers(t, "Like", l, Like(l), []rune{l})
		}
	}
}

func TestP3_4Pairs(t *testing.T) {
	n := 0
	for r := rune(0); r <= top; r++ {
		parts := Decomp(r)
		if len(parts) != 2 {
			continue
		}
		n++
		if whole, is := Pair(parts[0], parts[1]); whole != r || !is {
			t.Errorf("%x is %x, which is %x %v", r, parts, whole, is)
		}
		if Class(parts[0]) != 0 || Class(parts[1]) == 0 {
			t.Errorf("%x: %x: classes %d %d", r, parts, Class(parts[0]), Class(parts[1]))
		}
	}
	if n != 80 {
		t.Errorf("%d pairs", n)
	}
}

// An answer that is written into stays the caller's own.
func TestAnswersAreNew(t *testing.T) {
	calls := map[string]func(rune) []rune{"Map": Map, "Decomp": Decomp, "Like": Like}
	for name, call := range calls {
		for _, r := range []rune{0x61, 0x41, 0x1E9E, 0xFB01, 0xC4, 0x212B, 0x6D, 0x430, 0xDF} {
			want := slices.Clone(call(r))
			got := call(r)
			for i := range got {
				got[i] = -1
			}
			_ = append(got, 5)
			answers(t, name, r, call(r), want)
		}
	}
}
