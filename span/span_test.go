package span

import (
	"slices"
	"strings"
	"testing"

	"portcullis/api"
)

const top rune = api.MaxRune

// at makes a list of spans of pairs of numbers.
func at(ends ...rune) []api.Span {
	var l []api.Span
	for i := 0; i < len(ends); i += 2 {
		l = append(l, api.Span{Lo: ends[i], Hi: ends[i+1]})
	}
	return l
}

// apart is n spans of width code points each, with gap others between, from lo on.
func apart(n int, lo, width, gap rune) []api.Span {
	var l []api.Span
	for range n {
		l = append(l, api.Span{Lo: lo, Hi: lo + width - 1})
		lo += width + gap
	}
	return l
}

// byBits is the normal form of a set that is told by its bits, from base on.
func byBits(bits uint32, base rune) []api.Span {
	var l []api.Span
	for i := rune(0); i < 32; i++ {
		switch {
		case bits>>i&1 == 0:
		case i > 0 && bits>>(i-1)&1 == 1:
			l[len(l)-1].Hi = base + i
		default:
			l = append(l, api.Span{Lo: base + i, Hi: base + i})
		}
	}
	return l
}

// bitsOf tells which of the code points from base on are in l, one by one.
func bitsOf(l []api.Span, base rune) uint32 {
	var bits uint32
	for _, s := range l {
		for r := s.Lo; r <= s.Hi; r++ {
			bits |= 1 << (r - base)
		}
	}
	return bits
}

func same(t *testing.T, what string, got []api.Span, e api.Errno, want []api.Span) {
	t.Helper()
	if e != api.OK || !slices.Equal(got, want) {
		t.Errorf("%s: %x %d, not %x", what, got, e, want)
	}
}

func refused(t *testing.T, what string, got []api.Span, e, want api.Errno) {
	t.Helper()
	if e != want || len(got) != 0 {
		t.Errorf("%s: %d spans, error %d, not %d", what, len(got), e, want)
	}
}

// wrong is lists that may not be, each with its error.
var wrong = []struct {
	name string
	l    []api.Span
	e    api.Errno
}{
	{"Lo above Hi", at('b', 'a'), api.ErrArg},
	{"Lo above Hi by all", at(top, 0), api.ErrArg},
	{"negative Lo", at(-1, 5), api.ErrArg},
	{"both negative", at(-5, -1), api.ErrArg},
	{"least Lo", at(-1<<31, 0), api.ErrArg},
	{"Hi beyond MaxRune", at(0, top+1), api.ErrArg},
	{"both beyond MaxRune", at(top+1, top+1), api.ErrArg},
	{"greatest Hi", at(0, 1<<31-1), api.ErrArg},
	{"the last is wrong", at(1, 2, 4, 5, 7, 6), api.ErrArg},
	{"the first is wrong", at(7, 6, 1, 2), api.ErrArg},
	{"one too many", make([]api.Span, api.MaxSpans+1), api.ErrLong},
	{"one too many, in normal form", apart(api.MaxSpans+1, 0, 1, 1), api.ErrLong},
	{"too many, and wrong", append(at(2, 1), make([]api.Span, api.MaxSpans)...), api.ErrLong},
}

func TestP2_1Check(t *testing.T) {
	for _, l := range [][]api.Span{
		nil, {}, at(0, 0), at(top, top), at(0, top), at(5, 6, 1, 9, 1, 9, 3, 3),
		make([]api.Span, api.MaxSpans), apart(api.MaxSpans, 0, 1, 1),
	} {
		if e := Check(l); e != api.OK {
			t.Error(len(l), "spans that may be:", e)
		}
	}
	for _, w := range wrong {
		if e := Check(w.l); e != w.e {
			t.Error(w.name, e)
		}
	}
}

func TestP2_1AllCallsCheck(t *testing.T) {
	for _, w := range wrong {
		l, e := Norm(w.l)
		refused(t, "Norm: "+w.name, l, e, w.e)
		l, e = Not(w.l)
		refused(t, "Not: "+w.name, l, e, w.e)
		if s, e := Text(w.l); s != "" || e != w.e {
			t.Error("Text:", w.name, s, e)
		}
		if n := Count(w.l); n != 0 {
			t.Error("Count:", w.name, n)
		}
		for _, r := range []rune{-1, 0, 1, 5, 'a', top, top + 1} {
			if Has(w.l, r) {
				t.Error("Has:", w.name, r)
			}
		}
	}
}

// pairs are the calls that are handed two lists.
var pairs = []struct {
	name string
	call func(a, b []api.Span) ([]api.Span, api.Errno)
	op   func(a, b uint32) uint32
}{
	{"Union", Union, func(a, b uint32) uint32 { return a | b }},
	{"Meet", Meet, func(a, b uint32) uint32 { return a & b }},
	{"Less", Less, func(a, b uint32) uint32 { return a &^ b }},
}

func TestP2_1FromTheLeft(t *testing.T) {
	for _, p := range pairs {
		for _, w := range wrong {
			for _, good := range [][]api.Span{nil, at(1, 2), apart(api.MaxSpans, 0, 1, 1)} {
				l, e := p.call(w.l, good)
				refused(t, p.name+", left: "+w.name, l, e, w.e)
				l, e = p.call(good, w.l)
				refused(t, p.name+", right: "+w.name, l, e, w.e)
			}
			for _, v := range wrong {
				l, e := p.call(w.l, v.l)
				refused(t, p.name+", both: "+w.name, l, e, w.e)
			}
		}
	}
}

func TestP2_2Norm(t *testing.T) {
	for _, c := range []struct{ l, want []api.Span }{
		{nil, nil},
		{[]api.Span{}, nil},
		{at('c', 'f', 'a', 'b', 'e', 'h'), at('a', 'h')},
		{at(5, 5), at(5, 5)},
		{at(7, 9, 1, 3), at(1, 3, 7, 9)},
		{at(1, 3, 4, 6), at(1, 6)},
		{at(4, 6, 1, 3), at(1, 6)},
		{at(1, 3, 5, 6), at(1, 3, 5, 6)},
		{at(1, 9, 3, 4), at(1, 9)},
		{at(1, 9, 3, 4, 8, 12), at(1, 12)},
		{at(1, 2, 1, 9, 1, 5), at(1, 9)},
		{at(2, 2, 2, 2), at(2, 2)},
		{at(top, top, 0, 0), at(0, 0, top, top)},
		{at(top, top, 0, top-1), at(0, top)},
		{at(top, top, 0, top-2), at(0, top-2, top, top)},
		{at(0, top, 0, top), at(0, top)},
		{make([]api.Span, api.MaxSpans), at(0, 0)},
		{apart(api.MaxSpans, 0, 3, 0), at(0, 3*api.MaxSpans-1)},
		{apart(api.MaxSpans, 0, 3, 1), apart(api.MaxSpans, 0, 3, 1)},
	} {
		l, e := Norm(c.l)
		same(t, "Norm", l, e, c.want)
		back := slices.Clone(c.l)
		slices.Reverse(back)
		l, e = Norm(back)
		same(t, "Norm of them backwards", l, e, c.want)
	}
}

// small are all spans within five code points from base on.
func small(base rune) []api.Span {
	var l []api.Span
	for lo := base; lo < base+5; lo++ {
		for hi := lo; hi < base+5; hi++ {
			l = append(l, api.Span{Lo: lo, Hi: hi})
		}
	}
	return l
}

func TestP2_2AllSmallLists(t *testing.T) {
	for _, base := range []rune{0, 'a', top - 4} {
		all := small(base)
		for _, x := range all {
			for _, y := range all {
				for _, z := range all {
					l := []api.Span{x, y, z}
					bits := bitsOf(l, base)
					norm, e := Norm(l)
					same(t, "Norm", norm, e, byBits(bits, base))
					n := 0
					for r := base - 1; r <= base+5; r++ {
						in := r >= base && bits>>(r-base)&1 == 1
						if Has(l, r) != in {
							t.Errorf("Has(%x, %x) is not %v", l, r, in)
						}
						if in {
							n++
						}
					}
					if Count(l) != n {
						t.Errorf("Count(%x) is not %d", l, n)
					}
				}
			}
		}
	}
}

func TestP2_2HasAndCount(t *testing.T) {
	if n := Count(nil); n != 0 {
		t.Error(n)
	}
	if n := Count(at(0, top)); n != 0x110000 {
		t.Error(n)
	}
	if n := Count(at('a', 'z', 'a', 'z', 'x', 'z', '0', '9')); n != 36 {
		t.Error(n)
	}
	if n := Count(make([]api.Span, api.MaxSpans)); n != 1 {
		t.Error(n)
	}
	if n := Count(apart(api.MaxSpans, 0, 2, 1)); n != 2*api.MaxSpans {
		t.Error(n)
	}
	for _, r := range []rune{-1 << 31, -1, top + 1, 1<<31 - 1} {
		if Has(at(0, top), r) || Has(nil, r) {
			t.Error("no code point is in a set:", r)
		}
	}
	if Has(nil, 0) || !Has(at(0, top), 0) || !Has(at(0, top), top) || !Has(at(9, 9, 0, 0), 0) || Has(at(9, 9, 7, 7), 8) {
		t.Error("Has")
	}
}

func TestP2_3Examples(t *testing.T) {
	l, e := Union(at('a', 'a'), at('c', 'c'))
	same(t, "Union", l, e, at('a', 'a', 'c', 'c'))
	l, e = Meet(at('a', 'z'), at('c', 'd'))
	same(t, "Meet", l, e, at('c', 'd'))
	l, e = Less(at('a', 'z'), at('c', 'd'))
	same(t, "Less", l, e, at('a', 'b', 'e', 'z'))
	l, e = Not(at(0, 0x10FFFE))
	same(t, "Not", l, e, at(top, top))
	l, e = Not(nil)
	same(t, "Not of none", l, e, at(0, top))
	l, e = Not(at(0, top))
	same(t, "Not of all", l, e, nil)
	l, e = Not(at(0, 0))
	same(t, "Not of 0", l, e, at(1, top))
	l, e = Not(at(top, top, 5, 5))
	same(t, "Not of 5 and MaxRune", l, e, at(0, 4, 6, top-1))
}

func TestP2_3AllSmallSets(t *testing.T) {
	for _, base := range []rune{0, 'a', top - 5} {
		for a := uint32(0); a < 64; a++ {
			for b := uint32(0); b < 64; b++ {
				for _, p := range pairs {
					l, e := p.call(byBits(a, base), byBits(b, base))
					same(t, p.name, l, e, byBits(p.op(a, b), base))
				}
			}
		}
	}
}

func TestP2_3AnyOrder(t *testing.T) {
	all := small(0)
	for i, x := range all {
		for j, y := range all {
			a, b := []api.Span{x, y, x}, []api.Span{all[(i+j)%len(all)], all[(i*j)%len(all)], y}
			for _, p := range pairs {
				l, e := p.call(a, b)
				same(t, p.name, l, e, byBits(p.op(bitsOf(a, 0), bitsOf(b, 0)), 0))
			}
		}
	}
}

func TestP2_3AllSmallNots(t *testing.T) {
	for a := uint32(0); a < 1<<10; a++ {
		low := byBits(^a&(1<<10-1), 0)
		l, e := Not(append(byBits(a, 0), api.Span{Lo: 10, Hi: top}))
		same(t, "Not of all but what is low", l, e, low)
		l, e = Not(append(byBits(a, top-9), api.Span{Lo: 0, Hi: top - 10}))
		same(t, "Not of all but what is high", l, e, byBits(^a&(1<<10-1), top-9))
	}
}

func TestP2_3Limits(t *testing.T) {
	const most = api.MaxSpans
	half := apart(most/2, 0, 1, 3)
	l, e := Union(half, apart(most/2, 2, 1, 3))
	same(t, "Union to the most", l, e, apart(most, 0, 1, 1))
	l, e = Union(half, apart(most/2+1, 2, 1, 3))
	refused(t, "Union, one too many", l, e, api.ErrLong)
	l, e = Union(apart(most, 0, 1, 3), apart(most, 2, 1, 3))
	refused(t, "Union, twice the most", l, e, api.ErrLong)
	l, e = Union(apart(most, 0, 1, 1), apart(most, 1, 1, 1))
	same(t, "Union of the most that close up", l, e, at(0, 2*most-1))

	l, e = Less(at(0, 2*most-2), apart(most-1, 1, 1, 1))
	same(t, "Less to the most", l, e, apart(most, 0, 1, 1))
	l, e = Less(at(0, 2*most), apart(most, 1, 1, 1))
	refused(t, "Less, one too many", l, e, api.ErrLong)
	l, e = Less(apart(most, 0, 1, 1), apart(most, 0, 1, 1))
	same(t, "Less of itself", l, e, nil)

	// Spans of six and gaps of two, against the same moved by four: each span meets two.
	l, e = Meet(apart(most/2, 0, 6, 2), apart(most/2, 4, 6, 2))
	if e != api.OK || len(l) != most-1 {
		t.Error("Meet below the most:", len(l), e)
	}
	l, e = Meet(apart(most/2+1, 0, 6, 2), apart(most/2, 4, 6, 2))
	same(t, "Meet to the most", l, e, apart(most, 4, 2, 2))
	l, e = Meet(apart(most/2+1, 0, 6, 2), apart(most/2+1, 4, 6, 2))
	refused(t, "Meet, one too many", l, e, api.ErrLong)

	l, e = Not(apart(most-1, 1, 1, 1))
	if e != api.OK || len(l) != most {
		t.Error("Not to the most:", len(l), e)
	}
	l, e = Not(apart(most, 0, 1, 1))
	if e != api.OK || len(l) != most {
		t.Error("Not of the most that begin with 0:", len(l), e)
	}
	l, e = Not(apart(most, top-2*most+2, 1, 1))
	if e != api.OK || len(l) != most {
		t.Error("Not of the most that end with MaxRune:", len(l), e)
	}
	l, e = Not(apart(most, 1, 1, 1))
	refused(t, "Not, one too many", l, e, api.ErrLong)
}

func TestP2_3ArgumentsStay(t *testing.T) {
	a, b := at('x', 'z', 'a', 'c'), at('q', 'r', 'b', 'e')
	before := [][]api.Span{slices.Clone(a), slices.Clone(b)}
	norm, _ := Norm(a)
	for _, p := range pairs {
		l, _ := p.call(a, b)
		for i := range l {
			l[i] = api.Span{}
		}
	}
	Not(a)
	Text(a)
	Count(a)
	for i := range norm {
		norm[i] = api.Span{}
	}
	if !slices.Equal(a, before[0]) || !slices.Equal(b, before[1]) {
		t.Error("an argument was changed:", a, b)
	}
	rising := at('a', 'c', 'x', 'z')
	norm, _ = Norm(rising)
	norm[0] = api.Span{}
	if rising[0] != (api.Span{Lo: 'a', Hi: 'c'}) {
		t.Error("the normal form shares memory with what was handed in")
	}
}

func TestP2_5Sets(t *testing.T) {
	lists := [][]api.Span{
		nil, at(0, 0), at(top, top), at(0, top), at('a', 'z', 'c', 'd', '{', '{'), at(9, 9, 7, 7, 8, 8, 3, 4),
		at(0xD800, 0xDFFF, 0xE000, 0xFFFF), at(0, 99, 1000, top), apart(40, 5, 3, 2), apart(30, 0, 1, 1),
	}
	must := func(l []api.Span, e api.Errno) []api.Span {
		t.Helper()
		if e != api.OK {
			t.Fatal(e)
		}
		return l
	}
	for _, a := range lists {
		norm := must(Norm(a))
		same(t, "Not of Not", must(Not(must(Not(a)))), api.OK, norm)
		same(t, "with itself", must(Union(a, a)), api.OK, norm)
		same(t, "met by itself", must(Meet(a, a)), api.OK, norm)
		same(t, "less none", must(Less(a, nil)), api.OK, norm)
		same(t, "without itself", must(Less(a, a)), api.OK, nil)
		if Count(a)+Count(must(Not(a))) != 0x110000 {
			t.Error("Count of Not", a)
		}
		for _, b := range lists {
			both, one, less := must(Meet(a, b)), must(Union(a, b)), must(Less(a, b))
			same(t, "Union both ways", must(Union(b, a)), api.OK, one)
			same(t, "Meet both ways", must(Meet(b, a)), api.OK, both)
			same(t, "Less by Not", must(Meet(a, must(Not(b)))), api.OK, less)
			same(t, "Not of Union", must(Meet(must(Not(a)), must(Not(b)))), api.OK, must(Not(one)))
			same(t, "Not of Meet", must(Union(must(Not(a)), must(Not(b)))), api.OK, must(Not(both)))
			same(t, "put together again", must(Union(less, both)), api.OK, norm)
			if Count(one)+Count(both) != Count(a)+Count(b) {
				t.Error("Count of Union and Meet", a, b)
			}
		}
	}
}

func TestP2_5ThereAndBack(t *testing.T) {
	for bits := range uint32(1 << 12) {
		for _, base := range []rune{0, 0xFFF8, top - 11} {
			want := byBits(bits, base)
			s, e := Text(want)
			if e != api.OK {
				t.Fatal(e)
			}
			l, place, e := Parse(s)
			same(t, "Parse of Text "+s, l, e, want)
			if place != 0 {
				t.Error(s, place)
			}
		}
	}
	l := apart(api.MaxSpans, 7, 40, 900)
	s, _ := Text(l)
	back, place, e := Parse(s)
	same(t, "the most", back, e, l)
	if again, _ := Text(back); again != s || place != 0 || strings.Count(s, ",") != api.MaxSpans-1 {
		t.Error("Text of Parse of the most", place)
	}
}
