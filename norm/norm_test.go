package norm

import (
	"math"
	"math/rand/v2"
	"slices"
	"testing"

	"portcullis/api"
	"portcullis/unidata"
	"portcullis/utf"
)

const top rune = api.MaxRune

// wrong is numbers that are no code point, or no scalar.
var wrong = []rune{-1, -0x61, -0x301, math.MinInt32, math.MinInt32 + 0x301, top + 1, top + 0x302, math.MaxInt32, 0xD800, 0xDBFF, 0xDC00, 0xDFFF}

// all is some of all kinds: letters, marks of each class, what is taken apart once, twice, and this way alone, what nothing is known of, wrong numbers.
var all = []rune{
	0x61, 0x73, 0x53, 0x75, 0x55, 0x41, 0x3A9, 0x301, 0x304, 0x307, 0x308, 0x30A, 0x323, 0x327, 0x328, 0x64B, 0x93F, 0x94D,
	0xE1, 0xFC, 0xDC, 0x1D5, 0x1D6, 0x1E61, 0x1E63, 0x1E68, 0x1E69, 0x2126, 0x212A, 0x212B, 0x5D0, 0x305, 0x10FFFF, -1, 0xD800, top + 1,
}

// marks is some of each class, of most classes several.
var marks = []rune{0x300, 0x301, 0x302, 0x303, 0x304, 0x306, 0x307, 0x308, 0x30A, 0x323, 0x327, 0x328, 0x64B, 0x94D}

// lists calls f with every list of at most n numbers of these.
func lists(n int, these []rune, f func(l []rune)) {
	var grow func(l []rune)
	grow = func(l []rune) {
		f(l)
		if len(l) == n {
			return
		}
		for _, r := range these {
			grow(append(slices.Clip(l), r))
		}
	}
	grow(nil)
}

// picked is a list of n of these; the same seed picks the same.
func picked(seed uint64, n int, these []rune) []rune {
	pick := rand.New(rand.NewPCG(seed, 4))
	l := make([]rune, n)
	for i := range l {
		l[i] = these[pick.IntN(len(these))]
	}
	return l
}

func TestP4_1Examples(t *testing.T) {
	for _, c := range []struct {
		name     string
		call     func([]rune) []rune
		in, want string
	}{
		{"NFD", NFD, "1E69", "73 323 307"},
		{"NFC", NFC, "73 307 323", "1E69"},
		{"NFC", NFC, "1E61 323", "1E69"},
		{"Order", Order, "61 301 327 62", "61 327 301 62"},
		{"NFC", NFC, "61 327 301", "E1 327"},
		{"NFC", NFC, "212B", "C5"},
	} {
		in := hexes(t, c.in)
		answers(t, c.name, in, c.call(in), hexes(t, c.want))
	}
	if Is(hexes(t, "41 30A")) {
		t.Error("Is(41 30A)")
	}
}

// Each of these tells in, Order, NFD and NFC of it.
func TestP4_1Edges(t *testing.T) {
	for _, c := range [][4]string{
		{"", "", "", ""},
		{"61", "61", "61", "61"},
		// marks with nothing of class 0 ahead of them
		{"301", "301", "301", "301"},
		{"301 327", "327 301", "327 301", "327 301"},
		{"308 301 323", "323 308 301", "323 308 301", "323 308 301"},
		{"301 61", "301 61", "301 61", "301 61"},
		{"307 323 73 307", "323 307 73 307", "323 307 73 307", "323 307 1E61"},
		// two of one class stay as they stand, and the second one is kept away
		{"61 308 301", "61 308 301", "61 308 301", "E4 301"},
		{"61 301 308", "61 301 308", "61 301 308", "E1 308"},
		{"73 308 307", "73 308 307", "73 308 307", "73 308 307"},
		{"73 307 307", "73 307 307", "73 307 307", "1E61 307"},
		{"61 328 327", "61 328 327", "61 328 327", "61 328 327"},
		{"63 328 327", "63 328 327", "63 328 327", "63 328 327"},
		// one between of a class that is less, the same, greater
		{"61 323 301", "61 323 301", "61 323 301", "E1 323"},
		{"61 94D 64B 327 323 301", "61 94D 64B 327 323 301", "61 94D 64B 327 323 301", "E1 94D 64B 327 323"},
		{"61 304 301", "61 304 301", "61 304 301", "61 304 301"},
		{"61 323 304 301", "61 323 304 301", "61 323 304 301", "61 323 304 301"},
		{"63 301 327", "63 327 301", "63 327 301", "E7 301"},
		// one of class 0 between, mark or not
		{"61 62 301", "61 62 301", "61 62 301", "61 62 301"},
		{"61 93F 301", "61 93F 301", "61 93F 301", "61 93F 301"},
		{"61 301 93F 327", "61 301 93F 327", "61 301 93F 327", "E1 93F 327"},
		{"61 305 301", "61 305 301", "61 305 301", "61 305 301"},
		{"61 200D 301", "61 200D 301", "61 200D 301", "61 200D 301"},
		// a pair whose code point is the first of another pair
		{"75 308 304", "75 308 304", "75 308 304", "1D6"},
		{"55 308 304", "55 308 304", "55 308 304", "1D5"},
		{"75 304 308", "75 304 308", "75 304 308", "75 304 308"},
		{"1D6", "1D6", "75 308 304", "1D6"},
		{"53 323 307", "53 323 307", "53 323 307", "1E68"},
		{"53 307 323", "53 323 307", "53 323 307", "1E68"},
		{"73 327 307 323", "73 327 323 307", "73 327 323 307", "1E69 327"},
		// put together already, beside what may still be put to it
		{"FC 304", "FC 304", "75 308 304", "1D6"},
		{"DC 304", "DC 304", "55 308 304", "1D5"},
		{"1E63 307", "1E63 307", "73 323 307", "1E69"},
		{"1E61 323", "1E61 323", "73 323 307", "1E69"},
		{"1E60 323", "1E60 323", "53 323 307", "1E68"},
		{"1E61 307 323", "1E61 323 307", "73 323 307 307", "1E69 307"},
		{"1E69 323", "1E69 323", "73 323 323 307", "1E69 323"},
		{"E4 304", "E4 304", "61 308 304", "E4 304"},
		{"E1 327", "E1 327", "61 327 301", "E1 327"},
		{"2126 301", "2126 301", "3A9 301", "38F"},
		{"212B 304", "212B 304", "41 30A 304", "C5 304"},
		{"212A 212B 2126", "212A 212B 2126", "4B 41 30A 3A9", "4B C5 3A9"},
		// letters beside each other have their own marks
		{"61 301 65 301", "61 301 65 301", "61 301 65 301", "E1 E9"},
		{"E1 E1 301", "E1 E1 301", "61 301 61 301 301", "E1 E1 301"},
	} {
		in, nfc := hexes(t, c[0]), hexes(t, c[3])
		answers(t, "Order", in, Order(in), hexes(t, c[1]))
		answers(t, "NFD", in, NFD(in), hexes(t, c[2]))
		answers(t, "NFC", in, NFC(in), nfc)
		if Is(in) != slices.Equal(in, nfc) {
			t.Errorf("Is(%x): %v", in, Is(in))
		}
	}
}

func TestP4_1NoneAtAll(t *testing.T) {
	for _, l := range [][]rune{nil, {}} {
		if len(Order(l))+len(NFD(l))+len(NFC(l)) != 0 || !Is(l) {
			t.Errorf("of nothing: %x %x %x %v", Order(l), NFD(l), NFC(l), Is(l))
		}
	}
}

// Each pair and each single one goes apart, and together again; of all others nothing becomes.
func TestP4_1EachCodePoint(t *testing.T) {
	pairs, singles := 0, 0
	for r := rune(0); r <= top; r++ {
		one := []rune{r}
		switch parts := unidata.Decomp(r); len(parts) {
		case 0:
			answers(t, "NFD", one, NFD(one), one)
			answers(t, "NFC", one, NFC(one), one)
		case 1:
			singles++
			answers(t, "NFD", one, NFD(one), NFD(parts))
			answers(t, "NFC", one, NFC(one), parts)
			if Is(one) {
				t.Errorf("Is(%x)", r)
			}
		default:
			pairs++
			answers(t, "NFD", one, NFD(one), NFD(parts))
			answers(t, "NFC", one, NFC(one), one)
			answers(t, "NFC", parts, NFC(parts), one)
			if !Is(one) || Is(parts) {
				t.Errorf("Is(%x): %v; of its parts: %v", r, Is(one), Is(parts))
			}
		}
		if slices.ContainsFunc(NFD(one), canBeTakenApart) {
			t.Errorf("NFD(%x): %x", r, NFD(one))
		}
	}
	if pairs != 80 || singles != 3 {
		t.Errorf("%d pairs, %d single ones", pairs, singles)
	}
}

// Marks of four classes, in every order behind a letter, are told in one; those that s goes with are put to it.
func TestP4_1MarksInEveryOrder(t *testing.T) {
	sorted := hexes(t, "73 94D 327 323 307")
	n := 0
	lists(4, sorted[1:], func(l []rune) {
		some := slices.Clone(l)
		slices.Sort(some)
		if len(slices.Compact(some)) != 4 {
			return
		}
		n++
		in := append([]rune{0x73}, l...)
		answers(t, "Order", in, Order(in), sorted)
		answers(t, "NFD", in, NFD(in), sorted)
		answers(t, "NFC", in, NFC(in), hexes(t, "1E69 94D 327"))
	})
	if n != 24 {
		t.Errorf("%d orders", n)
	}
}

func TestP4_1ByTheWords(t *testing.T) {
	lists(3, all, func(l []rune) { byWords(t, l) })
	lists(5, hexes(t, "73 75 1E61 307 308 304 323"), func(l []rune) { byWords(t, l) })
	for seed := range uint64(2000) {
		byWords(t, picked(seed, int(seed%40), all))
	}
}

// Rows so long that a sort which does not keep what is equal shows it.
func TestP4_1LongRows(t *testing.T) {
	for seed := range uint64(60) {
		row := picked(seed, 150, marks)
		byWords(t, row)
		byWords(t, append([]rune{0x73}, row...))
		byWords(t, slices.Concat(row, []rune{0x61}, row, []rune{0x1E61}, row))
	}
}

// A row of very many marks is told soon.
func TestP4_1VeryLongRow(t *testing.T) {
	row := picked(1, 1<<17, marks)
	want := []rune{0x5D0}
	for class := range 256 {
		for _, r := range row {
			if unidata.Class(r) == uint8(class) {
				want = append(want, r)
			}
		}
	}
	in := append([]rune{0x5D0}, row...)
	if !slices.Equal(Order(in), want) || !slices.Equal(NFD(in), want) || !slices.Equal(NFC(in), want) {
		t.Error("a very long row is not in order")
	}
}

// A wrong number is of class 0 and no part of anything: it stays where it is, and marks on both sides of it on theirs.
func TestP4_1WrongNumbers(t *testing.T) {
	for _, w := range wrong {
		for _, c := range [][2][]rune{
			{{w}, {w}},
			{{w, w}, {w, w}},
			{{w, 0x301}, {w, 0x301}},
			{{w, 0x301, 0x327}, {w, 0x327, 0x301}},
			{{0x301, w, 0x327}, {0x301, w, 0x327}},
			{{0x61, w, 0x301}, {0x61, w, 0x301}},
			{{0x5D0, 0x301, 0x327, w, 0x307, 0x323}, {0x5D0, 0x327, 0x301, w, 0x323, 0x307}},
		} {
			answers(t, "Order", c[0], Order(c[0]), c[1])
			answers(t, "NFD", c[0], NFD(c[0]), c[1])
			answers(t, "NFC", c[0], NFC(c[0]), c[1])
			if Is(c[0]) != slices.Equal(c[0], c[1]) {
				t.Errorf("Is(%x): %v", c[0], Is(c[0]))
			}
		}
		answers(t, "NFC", []rune{w}, NFC([]rune{0x61, 0x301, w, 0xE1}), []rune{0xE1, w, 0xE1})
	}
}

// What is handed in stays as it is, behind its end too, and the answer has memory of its own.
func TestP4_1ArgumentsStay(t *testing.T) {
	for _, in := range []string{"61 301 327", "61 327 301", "E1", "1E69 301 327", "73 323 307", "61 62", "301"} {
		whole := append(hexes(t, in), 0x327, 0x327, 0x327, 0x327)
		before := slices.Clone(whole)
		l := whole[:len(whole)-4]
		for _, call := range []func([]rune) []rune{Order, NFD, NFC} {
			first, second := call(l), call(l)
			kept := slices.Clone(second)
			first = first[:cap(first)]
			for i := range first {
				first[i] = -7
			}
			if !slices.Equal(whole, before) || !slices.Equal(second, kept) {
				t.Errorf("%s: the list handed in is now %x, the other answer %x", in, whole, second)
			}
		}
		Is(l)
		if !slices.Equal(whole, before) {
			t.Errorf("Is(%s): the list handed in is now %x", in, whole)
		}
	}
}

func TestP4_2Texts(t *testing.T) {
	for in, want := range map[string]string{
		"":                               "",
		"a":                              "a",
		"A\u030a":                        "\u00c5",
		"\u212b":                         "\u00c5",
		"s\u0307\u0323":                  "\u1e69",
		"\u1e61\u0323":                   "\u1e69",
		"a\u0327\u0301":                  "\u00e1\u0327",
		"\u0301a":                        "\u0301a",
		"\u00e9\u20ac\U0001f600z":        "\u00e9\u20ac\U0001f600z",
		"\U0001f600\u0301\u0327":         "\U0001f600\u0327\u0301",
		"\x00a\u0301\x00":                "\x00\u00e1\x00",
		"\ufffd":                         "\ufffd",
		"\xff":                           "\ufffd",
		"a\xffb":                         "a\ufffdb",
		"a\xff\u0301":                    "a\ufffd\u0301",
		"a\xcc":                          "a\ufffd",
		"a\xcca\u0301":                   "a\ufffd\u00e1",
		"a\x81\u0301\u0327":              "a\ufffd\u0327\u0301",
		"\xe2\x82A\u030a\xff":            "\ufffd\u00c5\ufffd",
		"\xed\xa0\x80":                   "\ufffd\ufffd\ufffd",
		"\xc0\x80u\u0308\u0304":          "\ufffd\ufffd\u01d6",
		"\xf0\x9f\x98":                   "\ufffd",
		"\xf4\x90\x80\x80":               "\ufffd\ufffd\ufffd\ufffd",
		"\u0301\xe2\x82\u0301\u0323\xe2": "\u0301\ufffd\u0323\u0301\ufffd",
	} {
		if got := Text(in); got != want {
			t.Errorf("Text(%+q): %+q, not %+q", in, got, want)
		}
	}
}

func TestP4_2ByTheWords(t *testing.T) {
	for seed := range uint64(3000) {
		l := slices.DeleteFunc(picked(seed, int(seed%20), all), func(r rune) bool { return r < 0 || r > top || r == 0xD800 })
		s := string(l)
		if got, want := Text(s), string(wordsNFC(l)); got != want {
			t.Errorf("Text(%+q): %+q, not %+q", s, got, want)
		}
		if got := Text(s); Text(got) != got || !utf.Valid(got) || Text(string(NFD(l))) != got {
			t.Errorf("Text(%+q): %+q is not all there is to it", s, got)
		}
	}
}

func TestP4_3Follows(t *testing.T) {
	follows := func(l []rune) {
		d, c := NFD(l), NFC(l)
		answers(t, "NFC of NFC", l, NFC(c), c)
		answers(t, "NFC of NFD", l, NFC(d), c)
		answers(t, "NFD of NFD", l, NFD(d), d)
		answers(t, "NFD of NFC", l, NFD(c), d)
		if !Is(c) {
			t.Errorf("Is(NFC(%x)) is false", l)
		}
		o := Order(l)
		if outOfOrder(o) != 0 || outOfOrder(d) != 0 || outOfOrder(c) != 0 {
			t.Errorf("%x: not in order: %x %x %x", l, o, d, c)
		}
		answers(t, "Order of Order", l, Order(o), o)
		answers(t, "the code points of Order", l, slices.Sorted(slices.Values(o)), slices.Sorted(slices.Values(l)))
	}
	lists(3, all, follows)
	lists(5, hexes(t, "53 55 DC 307 308 304 323"), follows)
	for seed := range uint64(2000) {
		follows(picked(seed, int(seed%60), all))
		follows(append([]rune{0x73}, picked(seed, int(seed%60), marks)...))
	}
	for _, w := range wrong {
		follows([]rune{0x61, 0x301, 0x327, w, 0x301, 0x327})
	}
}

// What the layer leans on: a pair's code point is of class 0, so that what was put together may be put to again.
func TestP4_3PairsAreOfClassZero(t *testing.T) {
	for r := rune(0); r <= top; r++ {
		if len(unidata.Decomp(r)) > 0 && unidata.Class(r) != 0 {
			t.Errorf("%x is of class %d", r, unidata.Class(r))
		}
	}
}

// Whoever ranges over what is taken apart may leave at any place.
func TestP4_1LeftEarly(t *testing.T) {
	l := hexes(t, "1E69 62 1D5 212B")
	whole := slices.Collect(allApart(l))
	answers(t, "allApart", l, whole, hexes(t, "73 323 307 62 55 308 304 41 30A"))
	for n := range whole {
		var got []rune
		for r := range allApart(l) {
			got = append(got, r)
			if len(got) == n+1 {
				break
			}
		}
		answers(t, "allApart, left early", l, got, whole[:n+1])
	}
}
