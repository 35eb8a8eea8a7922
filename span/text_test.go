package span

import (
	"regexp"
	"slices"
	"strconv"
	"strings"
	"testing"

	"portcullis/api"
)

func TestP2_4Text(t *testing.T) {
	for _, c := range []struct {
		l    []api.Span
		want string
	}{
		{nil, ""},
		{at(0, 0), "0"},
		{at(0, 1), "0-1"},
		{at(0, 0, 2, 2), "0,2"},
		{at('a', 'a'), "61"},
		{at('c', 'f', 'a', 'b', 'e', 'h'), "61-68"},
		{at('c', 'z', 'a', 'a'), "61,63-7a"},
		{at(0xBCDEF, 0xBCDEF), "bcdef"},
		{at(top, top), "10ffff"},
		{at(0, top), "0-10ffff"},
		{at(0x10, 0xFF, 0xFFF, 0x1000), "10-ff,fff-1000"},
		{make([]api.Span, api.MaxSpans), "0"},
	} {
		if s, e := Text(c.l); s != c.want || e != api.OK {
			t.Errorf("%x: %q %d, not %q", c.l, s, e, c.want)
		}
	}
}

func TestP2_4Parse(t *testing.T) {
	for _, c := range []struct {
		s    string
		want []api.Span
	}{
		{"", nil},
		{"0", at(0, 0)},
		{"0-1", at(0, 1)},
		{"0,2", at(0, 0, 2, 2)},
		{"61,63-7a", at('a', 'a', 'c', 'z')},
		{"9,b", at(9, 9, 11, 11)},
		{"f-10", at(15, 16)},
		{"fffff,10ffff", at(0xFFFFF, 0xFFFFF, top, top)},
		{"0-10ffff", at(0, top)},
		{"0-10fffd,10ffff", at(0, top-2, top, top)},
		{"d800-dfff", at(0xD800, 0xDFFF)},
	} {
		l, place, e := Parse(c.s)
		same(t, c.s, l, e, c.want)
		if place != 0 {
			t.Error(c.s, place)
		}
	}
}

func TestP2_4PlacesOfFaults(t *testing.T) {
	for _, c := range []struct {
		s     string
		place int
	}{
		{"61,62", 3}, {"7-7", 2}, {"061", 1}, {"61,", 3}, // the examples
		{"00", 1}, {"0a", 1}, {"61,063", 3}, {"5-06", 2}, {"0-01", 2}, {"5,0", 2}, {"0-0", 2}, // noughts
		{"A", 0}, {"6A", 1}, {"61-7fA", 5}, {"61,A", 3}, {"61F", 2}, // capitals
		{"-", 0}, {"-5", 0}, {",", 0}, {",5", 0}, {"5-", 2}, {"5,", 2}, {"5--6", 2}, {"5,,7", 2}, {"5-,7", 2}, {"5,-7", 2}, // nothing there
		{"5-6-7", 3}, {"5-6-", 3}, {"5-6,", 4}, // a second hyphen, a last comma
		{"10ffff-", 7}, {"10ffff,", 7}, {"10fffe,", 7}, {"0-10ffff,", 9}, {"0-10ffff-", 8}, // where no number can follow
		{"10ffff-10ffff", 7}, {"10ffff,0", 7}, {"10fffe,10ffff", 7},
		{"110000", 0}, {"ffffff", 0}, {"5-110000", 2}, {"5,110000", 2}, {"1234567", 0}, // above MaxRune
		{"10ffff0", 6}, {"1000000", 6}, {"5,1000000", 8}, {"5-1000000", 8}, // seven digits
		{"100000,1000000", 7}, {"1000000000000000000000", 6},
		{"9,8", 2}, {"9,9", 2}, {"9,a", 2}, {"9-f,10", 4}, {"9-f,f", 4}, {"9-f,a", 4}, {"9-8", 2}, {"ff,1", 3}, // not above, next to
		{"9,8x", 2}, {"9,a-b", 2}, {"7-7-", 2}, {"61-7A", 3}, {"110000x", 0}, // the number is told ahead of what is behind it
		{" ", 0}, {"5 ", 1}, {"5, 7", 2}, {"g", 0}, {"5g", 1}, {"0x5", 1}, {"+5", 0}, {"5;7", 1}, {"5-6x", 3},
		{"\x00", 0}, {"5\x00", 1}, {"\xff", 0}, {"5\u2010", 1}, {"/", 0}, {":", 0}, {"`", 0}, {"@", 0},
	} {
		l, place, e := Parse(c.s)
		refused(t, c.s, l, e, api.ErrForm)
		if place != c.place {
			t.Errorf("%q: %d, not %d", c.s, place, c.place)
		}
	}
}

func TestP2_4MostSpans(t *testing.T) {
	most, _ := Text(apart(api.MaxSpans, 0, 1, 1))
	last := strings.LastIndexByte(most, ',') + 1
	for _, c := range []struct {
		s     string
		place int
		e     api.Errno
	}{
		{most, 0, api.OK},
		{most + "-10ffff", 0, api.OK},
		{most + ",ffff", len(most), api.ErrForm},
		{most + ",", len(most), api.ErrForm},
		{most + ",0", len(most), api.ErrForm},
		{most + " ", len(most), api.ErrForm},
		{most + "-", len(most) + 1, api.ErrForm},
		{most + "-,", len(most) + 1, api.ErrForm},
		{most + "-fff,ffff", len(most) + 4, api.ErrForm},
		{most + "-fff-", len(most) + 4, api.ErrForm},
		{most[:last], last, api.ErrForm},
		{most[:last] + "0", last, api.ErrForm},
	} {
		l, place, e := Parse(c.s)
		if place != c.place || e != c.e || (len(l) == api.MaxSpans) != (e == api.OK) {
			t.Error("...", c.s[last:], len(l), place, e)
		}
	}
}

var number = regexp.MustCompile("^(0|[1-9a-f][0-9a-f]{0,5})")

// place is where a text is wrong, -1 if nowhere, told by its numbers and what parts them.
func place(s string) int {
	ahead, apart, hyphen := int64(-2), int64(2), false
	for at := 0; s != ""; {
		n := number.FindString(s[at:])
		v, _ := strconv.ParseInt(n, 16, 64)
		if n == "" || v > api.MaxRune || v < ahead+apart {
			return at
		}
		at += len(n)
		switch {
		case at == len(s):
			return -1
		case s[at] == ',':
			apart, hyphen = 2, false
		case s[at] == '-' && !hyphen:
			apart, hyphen = 1, true
		default:
			return at
		}
		ahead = v
		at++
	}
	return -1
}

func TestP2_4AllShortTexts(t *testing.T) {
	const signs = "012f-,"
	texts := []string{""}
	for range 6 {
		var longer []string
		for _, s := range texts {
			for _, c := range signs {
				longer = append(longer, s+string(c))
			}
		}
		texts = longer
		for _, s := range texts {
			l, at, e := Parse(s)
			want := place(s)
			if (e == api.OK) != (want < 0) || at != max(want, 0) || e != api.OK && l != nil {
				t.Fatalf("%q: %x %d %d, not %d", s, l, at, e, want)
			}
			if e != api.OK {
				continue
			}
			if back, f := Text(l); back != s || f != api.OK {
				t.Fatalf("P2.5: Text of Parse of %q is %q", s, back)
			}
			if norm, f := Norm(l); f != api.OK || !slices.Equal(norm, l) {
				t.Fatalf("Parse of %q is not in normal form: %x", s, l)
			}
		}
	}
}
