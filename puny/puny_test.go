package puny

import (
	"math"
	"math/big"
	"math/rand/v2"
	"slices"
	"strings"
	"testing"

	"portcullis/api"
)

const top rune = api.MaxRune

// pairs is texts beside what they are written as: the chapter's, those of RFC 3492 (section 7.1) that are short enough, and edges.
var pairs = []struct{ text, written string }{
	{"bücher", "bcher-kva"},
	{"abc", "abc-"},
	{"ü", "tda"},
	{"", ""},
	{"-", "--"},
	{"--", "---"},
	{"-a", "-a-"},
	{"a-b", "a-b-"},
	{"üb", "b-dha"},
	{"bü", "b-eha"},
	{"-ü", "--eha"},
	{"ü-", "--dha"},
	{"ليهمابتكلموشعربي؟", "egbpdaj6bu4bxfgehfvwxn"},
	{"他们为什么不说中文", "ihqwcrb4cv8a8dqg056pqjye"},
	{"他們爲什麽不說中文", "ihqwctvzc91f659drss3x8bo0yb"},
	{"Pročprostěnemluvíčesky", "Proprostnemluvesky-uyb24dma41a"},
	{"למההםפשוטלאמדבריםעברית", "4dbcagdahymbxekheh6e0a7fei0b"},
	{"なぜみんな日本語を話してくれないのか", "n8jok5ay5dzabd5bym9f0cm5685rrjetr6pdxa"},
	{"PorquénopuedensimplementehablarenEspañol", "PorqunopuedensimplementehablarenEspaol-fmd56a"},
	{"TạisaohọkhôngthểchỉnóitiếngViệt", "TisaohkhngthchnitingVit-kjcr8268qyxafd2f1b9g"},
	{"3年B組金八先生", "3B-ww4c5e180e575a65lsy2b"},
	{"安室奈美恵-with-SUPER-MONKEYS", "-with-SUPER-MONKEYS-pc58ag80a8qai00g7n9n"},
	{"Hello-Another-Way-それぞれの場所", "Hello-Another-Way--fc4qua05auwb3674vfr0b"},
	{"ひとつ屋根の下2", "2-u9tlzr9756bt3uc0v"},
	{"MajiでKoiする5秒前", "MajiKoi5-783gue6qz075azm5e"},
	{"パフィーdeルンバ", "de-jg4avhby1noc0d"},
	{"そのスピードで", "d9juau41awczczp"},
	{"-> $1.00 <-", "-> $1.00 <--"},
}

// some is code points of all kinds, on both sides of each edge.
var some = []rune{0, '-', '0', 'A', 'Z', '_', 'a', 'z', 127, 128, 129, 0xFC, 0x3B1, 0x430, 0x5D0, 0x65E5, 0xD7FF, 0xE000, 0xFFFD, 0xFFFF, 0x10000, 0x1F600, top - 1, top}

// wrong is numbers that are no scalar.
var wrong = []rune{-1, -0x61, math.MinInt32, 0xD800, 0xDBFF, 0xDC00, 0xDFFF, top + 1, math.MaxInt32}

func row(r rune, n int) []rune { return slices.Repeat([]rune{r}, n) }

// lists calls f with every list of at most n of these.
func lists(n int, these []rune, f func(l []rune)) {
	var grow func(l []rune)
	grow = func(l []rune) {
		f(l)
		if len(l) == n {
			return
		}
		for _, r := range these {
			grow(append(slices.Clip(l), r))
		}
	}
	grow(nil)
}

// texts calls f with every text of at most n of these bytes.
func texts(n int, these string, f func(s string)) {
	var grow func(s string)
	grow = func(s string) {
		f(s)
		if len(s) == n {
			return
		}
		for i := range len(these) {
			grow(s + these[i:i+1])
		}
	}
	grow("")
}

func allBytes() string {
	var b []byte
	for c := range 256 {
		b = append(b, byte(c))
	}
	return string(b)
}

func checkEncode(t *testing.T, l []rune) {
	t.Helper()
	kept := slices.Clone(l)
	got, e := Encode(l)
	want, we := wordsEncode(l)
	if got != want || e != we {
		t.Errorf("Encode(%x) = %q, %d; want %q, %d", l, got, e, want, we)
	}
	if !slices.Equal(l, kept) {
		t.Errorf("Encode(%x) changed its list to %x", kept, l)
	}
	if e != api.OK {
		return
	}
	if back, e := Decode(got); e != api.OK || !slices.Equal(back, l) {
		t.Errorf("Decode(Encode(%x)) = %x, %d", l, back, e)
	}
}

// settled tells whether P5.4 says that s comes back as it is.
func settled(s string) bool {
	behind := s[strings.LastIndex(s, "-")+1:]
	return !strings.ContainsAny(behind, "ABCDEFGHIJKLMNOPQRSTUVWXYZ")
}

func checkDecode(t *testing.T, s string) {
	t.Helper()
	got, e := Decode(s)
	want, we := wordsDecode(s)
	if !slices.Equal(got, want) || e != we {
		t.Errorf("Decode(%q) = %x, %d; want %x, %d", s, got, e, want, we)
	}
	if e != api.OK || !settled(s) {
		return
	}
	if back, e := Encode(got); e != api.OK || back != s {
		t.Errorf("Encode(Decode(%q)) = %q, %d", s, back, e)
	}
}

func TestP5_1Examples(t *testing.T) {
	for _, c := range []struct {
		delta, points int
		first         bool
		want          int
	}{
		{0, 1, true, 0},
		{0, 1, false, 0},
		{699, 1, true, 0},
		{700, 1, true, 1},             // 1 and 1: 72 / 40
		{700, 2, true, 0},             // 1 and 0: 36 / 39
		{19853, 1, true, 21},          // of RFC 3492, section 7.1 (B)
		{1, 1, false, 0},              // 0 and 0
		{455, 1, false, 33},           // 227 and 227
		{455 * 2, 456, false, 33},     // 455 and 0: no division yet
		{456 * 2, 457, false, 36 + 9}, // 456 and 0: 13, and once 36
		{456 * 700, 457, true, 36 + 9},
		{456*700 - 1, 457, true, 33},
		{math.MaxInt, math.MaxInt, true, wordsAdapt(big.NewInt(math.MaxInt), math.MaxInt, true)},
	} {
		if got := Adapt(c.delta, c.points, c.first); got != c.want {
			t.Errorf("Adapt(%d, %d, %v) = %d, want %d", c.delta, c.points, c.first, got, c.want)
		}
	}
}

func TestP5_1AsTheWordsSay(t *testing.T) {
	check := func(delta, points int) {
		for _, first := range []bool{true, false} {
			if got, want := Adapt(delta, points, first), wordsAdapt(big.NewInt(int64(delta)), points, first); got != want {
				t.Fatalf("Adapt(%d, %d, %v) = %d, want %d", delta, points, first, got, want)
			}
		}
	}
	for delta := range 3000 {
		for _, points := range []int{1, 2, 3, 7, 62, 63, 64, 455, 456} {
			check(delta, points)
		}
	}
	great := []int{1 << 20, 455*700 - 1, 455 * 700, 455*700 + 699, 456 * 700, 455 * 35 * 2, 456 * 35 * 2, math.MaxInt32 - 1, math.MaxInt32, math.MaxInt32 + 1, math.MaxInt64 - 1, math.MaxInt64}
	for _, delta := range great {
		for points := 1; points < 70; points++ {
			check(delta, points)
		}
		for _, points := range great {
			check(delta, points)
		}
	}
}

func TestP5_1Wrong(t *testing.T) {
	for _, first := range []bool{true, false} {
		for _, wrong := range []int{-1, -2, -700, -701, -100000, math.MinInt32, math.MinInt64} {
			for _, right := range []int{1, 2, 100000, math.MaxInt64} {
				if got := Adapt(wrong, right, first); got != 0 {
					t.Errorf("Adapt(%d, %d, %v) = %d", wrong, right, first, got)
				}
				if got := Adapt(right, wrong, first); got != 0 {
					t.Errorf("Adapt(%d, %d, %v) = %d", right, wrong, first, got)
				}
			}
			if got := Adapt(wrong, wrong, first); got != 0 {
				t.Errorf("Adapt(%d, %d, %v) = %d", wrong, wrong, first, got)
			}
		}
		for _, delta := range []int{0, 1, 700, 100000, math.MaxInt64} {
			if got := Adapt(delta, 0, first); got != 0 {
				t.Errorf("Adapt(%d, 0, %v) = %d", delta, first, got)
			}
		}
	}
}

func TestP5_2Examples(t *testing.T) {
	for _, c := range pairs {
		if got, e := Encode([]rune(c.text)); got != c.written || e != api.OK {
			t.Errorf("Encode(%s) = %q, %d; want %q", c.text, got, e, c.written)
		}
	}
	if got, e := Encode(nil); got != "" || e != api.OK {
		t.Errorf("Encode(nil) = %q, %d", got, e)
	}
}

func TestP5_2Bounds(t *testing.T) {
	for _, c := range []struct {
		name string
		l    []rune
		want string
		e    api.Errno
	}{
		{"62 letters", row('a', 62), strings.Repeat("a", 62) + "-", api.OK},
		{"63 letters", row('a', 63), "", api.ErrLong},
		{"64 letters", row('a', 64), "", api.ErrLong},
		{"63 points that are a digit each", row(128, 63), strings.Repeat("a", 63), api.OK},
		{"64 points that are a digit each", row(128, 64), "", api.ErrLong},
		{"just 63 bytes", row(0xFC, 61), "tda" + strings.Repeat("a", 60), api.OK},
		{"just 64 bytes", row(0xFC, 62), "", api.ErrLong},
		{"letters and digits, just 63 bytes", append(row('a', 59), 128), strings.Repeat("a", 59) + "-yba", api.OK},
		{"letters and digits, just 64 bytes", append(row('a', 60), 128), "", api.ErrLong},
		{"many great ones", row(top, 63), "", api.ErrLong},
	} {
		if got, e := Encode(c.l); got != c.want || e != c.e {
			t.Errorf("%s: %q, %d; want %q, %d", c.name, got, e, c.want, c.e)
		}
	}
}

func TestP5_2Wrong(t *testing.T) {
	for _, r := range wrong {
		for name, l := range map[string][]rune{
			"alone":           {r},
			"first":           {r, 'a', 0xFC},
			"last":            {'a', 0xFC, r},
			"of 63":           append(row('a', 62), r),
			"written be long": append(row(top, 62), r),
		} {
			if s, e := Encode(l); s != "" || e != api.ErrArg {
				t.Errorf("Encode(%x), %s = %q, %d", l, name, s, e)
			}
		}
		if s, e := Encode(append(row('a', 63), r)); s != "" || e != api.ErrLong {
			t.Errorf("64 with %x among them: %q, %d", r, s, e)
		}
		if s, e := Encode(row(r, 64)); s != "" || e != api.ErrLong {
			t.Errorf("64 of %x: %q, %d", r, s, e)
		}
	}
}

func TestP5_2EveryCodePoint(t *testing.T) {
	for r := rune(-2); r <= top+2; r++ {
		s, e := Encode([]rune{r})
		if scalar := wordsScalar(int64(r)); scalar != (e == api.OK) || !scalar && (e != api.ErrArg || s != "") {
			t.Fatalf("Encode(%x) = %q, %d", r, s, e)
		}
		if r%97 == 0 || r < 1000 || r > top-100 {
			checkEncode(t, []rune{r})
		}
		if e != api.OK {
			continue
		}
		if l, e := Decode(s); e != api.OK || len(l) != 1 || l[0] != r {
			t.Fatalf("Decode(%q) = %x, %d; want %x", s, l, e, r)
		}
	}
}

func TestP5_2ShortLists(t *testing.T) {
	lists(3, append(slices.Clone(some), wrong...), func(l []rune) { checkEncode(t, l) })
	lists(6, []rune{'-', 'a', 128, 0xFC}, func(l []rune) { checkEncode(t, l) })
}

func TestP5_2LongLists(t *testing.T) {
	pick := rand.New(rand.NewPCG(5, 2))
	for range 20000 {
		n := pick.IntN(66)
		high := []int{0x80, 0x100, 0x250, 0x3000, 0x110000}[pick.IntN(5)]
		low := []int{0, 0x61, 0x7E}[pick.IntN(3)]
		l := make([]rune, n)
		for i := range l {
			l[i] = rune(low + pick.IntN(high-low))
			if pick.IntN(3) == 0 {
				l[i] = some[pick.IntN(len(some))]
			}
		}
		checkEncode(t, l)
	}
}

func TestP5_3Examples(t *testing.T) {
	for _, c := range pairs {
		if got, e := Decode(c.written); string(got) != c.text || e != api.OK {
			t.Errorf("Decode(%q) = %q, %d; want %q", c.written, string(got), e, c.text)
		}
	}
}

func TestP5_3Capitals(t *testing.T) {
	for written, text := range map[string]string{
		"tdA":       "ü",
		"TDA":       "ü",
		"BCHER-KVA": "BüCHER",
		"bcher-KvA": "bücher",
		"ABC-":      "ABC",
		"B-DHA":     "üB",
	} {
		if got, e := Decode(written); string(got) != text || e != api.OK {
			t.Errorf("Decode(%q) = %q, %d; want %q", written, string(got), e, text)
		}
	}
}

func TestP5_3Bounds(t *testing.T) {
	for _, c := range []struct {
		s    string
		want []rune
		e    api.Errno
	}{
		{strings.Repeat("a", 63), row(128, 63), api.OK},
		{strings.Repeat("a", 64), nil, api.ErrLong},
		{strings.Repeat("a", 62) + "-", row('a', 62), api.OK},
		{strings.Repeat("a", 63) + "-", nil, api.ErrLong},
		{strings.Repeat("-", 63), row('-', 62), api.OK},
		{strings.Repeat("-", 64), nil, api.ErrLong},
		{strings.Repeat("\x80", 63), nil, api.ErrForm},
		{strings.Repeat("\x80", 64), nil, api.ErrLong},
		{strings.Repeat("_", 1000), nil, api.ErrLong},
	} {
		if got, e := Decode(c.s); !slices.Equal(got, c.want) || e != c.e {
			t.Errorf("Decode(%q) = %x, %d; want %x, %d", c.s, got, e, c.want, c.e)
		}
	}
}

func TestP5_3Wrong(t *testing.T) {
	for name, these := range map[string][]string{
		"a byte from 128 on":            {"\x80", "a\x80", "\x80a-", "ü", "ü-", "a-\xff", "\xff-tda", "a-ü", "bcher-kv\xe1"},
		"a hyphen as the first byte":    {"-", "-a", "-tda", "-99"},
		"no digit":                      {"_", "a-_", "a_", "tda ", "a.b", "td@", "td`", "td{", "td[", "td/", "td:", "a-td\x00", "\x7f"},
		"it ends where one is wanted":   {"t", "td", "9", "b-k", "bcher-kv", "bcher-k", "tda9", "tda99"},
		"it becomes too great":          {"99999999", "999999999999", "a-99999999", strings.Repeat("9", 63), "zzzzzzzzzzzzzzzzzzzzzzzzzzzzz", strings.Repeat("9", 30) + strings.Repeat("a", 30)},
		"n would be a surrogate":        {wordsWritten([]rune{0xD800}), wordsWritten([]rune{0xDFFF}), wordsWritten([]rune{'a', 0xDBFF}), wordsWritten([]rune{0xDC00, 0xE000})},
		"n would be beyond the last":    {wordsWritten([]rune{top + 1}), wordsWritten([]rune{'a', top + 1, 'b'}), wordsWritten([]rune{top, top + 1}), wordsWritten([]rune{math.MaxInt32 / 2})},
		"it is beyond, a digit further": {wordsWritten([]rune{top}) + "b", wordsWritten([]rune{0xD7FF}) + "b"},
	} {
		for _, s := range these {
			if got, e := Decode(s); len(got) > 0 || e != api.ErrForm {
				t.Errorf("%s: Decode(%q) = %x, %d", name, s, got, e)
			}
		}
	}
}

// wrapping is one number, of digits that are chosen so that i would be 124, as for ü, if it were kept in so many bits alone: behind the first two digits each weight is ten times the one ahead of it, so a digit's last bit settles one more bit of the sum.
func wrapping(bits int) string {
	const want = 124
	s, sum, w := "", uint64(0), uint64(1)
	put := func(d uint64) {
		s += signs[d : d+1]
		sum += d * w
	}
	for range 2 {
		put(1)
		w *= 35
	}
	for at := range bits - 4 {
		d := uint64(26)
		if (sum+d*w)>>at&1 != want>>at&1 {
			d++
		}
		put(d)
		w *= 10
	}
	for last := range uint64(16) {
		if (sum+last*w)<<(64-bits) == want<<(64-bits) {
			put(last)
			break
		}
	}
	return s
}

func TestP5_3WrapsRound(t *testing.T) {
	for _, bits := range []int{31, 32, 33, 63, 64} {
		s := wrapping(bits)
		if len(s) != bits-1 {
			t.Fatalf("no number of %d bits: %q", bits, s)
		}
		if got, e := Decode(s); len(got) > 0 || e != api.ErrForm {
			t.Errorf("Decode(%q) = %x, %d", s, got, e)
		}
	}
}

func TestP5_3ShortTexts(t *testing.T) {
	texts(2, allBytes(), func(s string) { checkDecode(t, s) })
	texts(3, "-_@`[{/:aAbkstzZ01589\x00\x7f\x80\xff", func(s string) { checkDecode(t, s) })
	texts(6, "-aB19", func(s string) { checkDecode(t, s) })
}

func TestP5_3LongTexts(t *testing.T) {
	pick := rand.New(rand.NewPCG(5, 3))
	from := []string{signs, "abc", "aaaaaaaaab", "aaaaaab9", "yz019", signs + "-", "aaaaaaABCXYZ-", "aaaaaaaaaaaaaaaaaaa_\x80-"}
	for range 40000 {
		s := ""
		these := from[pick.IntN(len(from))]
		for range pick.IntN(66) {
			at := pick.IntN(len(these))
			s += these[at : at+1]
		}
		checkDecode(t, s)
	}
}

// TestP5_3ManyPoints reads numbers of which i is great, while n stays small: many points are there already.
func TestP5_3ManyPoints(t *testing.T) {
	pick := rand.New(rand.NewPCG(5, 4))
	for range 40000 {
		s := strings.Repeat("a", 40+pick.IntN(20)) + "-"
		for range pick.IntN(10) {
			at := pick.IntN(len(signs))
			s += signs[at : at+1]
		}
		checkDecode(t, s)
	}
}

func TestP5_4ThereAndBack(t *testing.T) {
	for _, c := range pairs {
		s, _ := Encode([]rune(c.text))
		if l, e := Decode(s); string(l) != c.text || e != api.OK {
			t.Errorf("Decode(Encode(%q)) = %q, %d", c.text, string(l), e)
		}
		l, _ := Decode(c.written)
		if s, e := Encode(l); s != c.written || e != api.OK {
			t.Errorf("Encode(Decode(%q)) = %q, %d", c.written, s, e)
		}
	}
}

// TestP5_4Capitals: those ahead of the last hyphen stay, those behind it come back small.
func TestP5_4Capitals(t *testing.T) {
	for s, want := range map[string]string{
		"BCHER-kva": "BCHER-kva",
		"BCHER-KVA": "BCHER-kva",
		"TDA":       "tda",
		"A-B-eHa":   "A-B-eha",
	} {
		l, _ := Decode(s)
		got, e := Encode(l)
		if got != want || e != api.OK {
			t.Errorf("Encode(Decode(%q)) = %q, %d; want %q", s, got, e, want)
		}
	}
}

// TestP5_4NewMemory: what is done to one answer is not seen in another.
func TestP5_4NewMemory(t *testing.T) {
	a, _ := Decode("bcher-kva")
	for i := range a {
		a[i] = 'x'
	}
	if b, _ := Decode("bcher-kva"); string(b) != "bücher" {
		t.Errorf("Decode answers %q behind a change", string(b))
	}
}
