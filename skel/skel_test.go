package skel

import (
	"slices"
	"strings"
	"testing"

	"portcullis/api"
	"portcullis/norm"
	"portcullis/unidata"
	"portcullis/utf"
)

// pieces is some of all kinds: letters of each script, what looks like them, what looks like two, marks of several classes, what is taken apart, what is not seen, what nothing is known of, bytes that are not well-formed.
var pieces = []string{
	"a", "b", "l", "m", "n", "o", "r", "A", "M", "0", "1", "-", ".", " ", "\x7f", "\u0080",
	"\u0301", "\u0304", "\u0308", "\u0323", "\u0327", "\u064B", "\u094D", "\u0305",
	"\u00E1", "\u00FC", "\u01D6", "\u1E69", "\u212A", "\u212B", "\u2126", "\u03AC", "\u0451", "\u0439", "\u00DF",
	"\u03B1", "\u03BF", "\u03C2", "\u0430", "\u0435", "\u0438", "\u0455", "\u05D0", "\u05E1", "\u0627", "\u0628", "\u0661", "\u0915", "\u093F",
	"\u3042", "\u30A2", "\u30FC", "\u4E00", "\U00010428", "\u2603", "\U0001F600",
	"\u00AD", "\u200C", "\u200D", "\uFF21", "\uFFFD", "\xff", "\xe2\x82", "\xed\xa0\x80",
}

// fewPieces is the same, for longer texts: what changes how code points stand to each other.
var fewPieces = []string{"a", "m", "\u00AD", "\u200D", "\u0301", "\u0323", "\u1E69", "\u0435", "\u0451", "\xff"}

// oneOfEach is a letter of each script, beside the two that are everybody's.
var oneOfEach = []string{"\u2603", "\u0301", "a", "\u03B1", "\u0430", "\u05D0", "\u0628", "\u0915", "\u3042", "\u30A2", "\u4E00", "\U00010428"}

func TestP8_1Examples(t *testing.T) {
	skeleton(t, "p\u0430ypal", "paypal")
	alike(t, "p\u0430ypal", "paypa1", true)
	skeleton(t, "m", "rn")
	alike(t, "rn", "m", true)
	alike(t, "a", "b", false)
}

func TestP8_1Ordinary(t *testing.T) {
	for in, want := range map[string]string{
		"":            "",
		"abc":         "abc",
		"ABC":         "ABC", // a capital stays one
		"M":           "M",
		"example.com": "exarnple.corn",
		"g00g1e":      "google",
		"0123456789":  "ol23456789",
		"-_./ %\x00":  "-_./ %\x00",
		"mm":          "rnrn",
		// each of the others that look like Latin ones
		"\u03B1\u03BD\u03BF\u03C1":                                     "avop",
		"\u0430\u0435\u043E\u0440\u0441\u0443\u0445\u0455\u0456\u0458": "aeopcyxsij",
		"\u05E1\u0627":        "ol",
		"\u30FC":              "\u4E00",
		"\u30FC\u4E00":        "\u4E00\u4E00",
		"\u0410\u0391\u0399":  "\u0410\u0391\u0399",
		"\u00DF\u2603\uFF21":  "\u00DF\u2603\uFF21",
		"\U00010428\u3042":    "\U00010428\u3042",
		"\u03BD0\u0441\u006D": "voc" + "rn",
	} {
		skeleton(t, in, want)
	}
}

func TestP8_1TakenApart(t *testing.T) {
	for in, want := range map[string]string{
		"E1":   "61 301",
		"1E69": "73 323 307",
		"1D6":  "75 308 304",
		"212A": "4B",
		"212B": "41 30A",
		"2126": "3A9",
		// marks in several orders
		"61 301 327":     "61 327 301",
		"61 327 301":     "61 327 301",
		"73 307 323":     "73 323 307",
		"1E61 323":       "73 323 307",
		"61 308 301":     "61 308 301",
		"61 301 308":     "61 301 308",
		"301 323":        "323 301",
		"301 61":         "301 61",
		"61 301 94D 64B": "61 94D 64B 301",
		// what is taken apart looks like something else behind that, not ahead of it
		"451":         "65 308",
		"3AC":         "61 301",
		"3CC":         "6F 301",
		"439":         "438 306",
		"435 308":     "65 308",
		"3B1 301":     "61 301",
		"EB":          "65 308",
		"3AD":         "3B5 301",
		"451 323":     "65 323 308",
		"6D 301 323":  "72 6E 323 301",
		"6D 323 301":  "72 6E 323 301",
		"6D 6D 301":   "72 6E 72 6E 301",
		"30 308":      "6F 308",
		"31 301 30":   "6C 301 6F",
		"627 64B 301": "6C 64B 301",
		"30FC 301":    "4E00 301",
		// of what the table does not have nothing is known: it stands between marks
		"61 301 305 327": "61 301 305 327",
		"61 301 93F 327": "61 301 93F 327",
	} {
		skeleton(t, text(t, in), text(t, want))
	}
}

func TestP8_1Unseen(t *testing.T) {
	for in, want := range map[string]string{
		"AD":            "",
		"200C":          "",
		"200D":          "",
		"AD 200C 200D":  "",
		"200D 200D AD":  "",
		"AD 61":         "61",
		"200C 61":       "61",
		"200D 61":       "61",
		"61 AD 62":      "61 62",
		"61 200C 62":    "61 62",
		"61 200D 62":    "61 62",
		"61 AD":         "61",
		"61 200C":       "61",
		"61 200D":       "61",
		"AD 6D 200C AD": "72 6E",
		"AD AD 61 200D": "61",
		"915 94D 200D":  "915 94D",
		"200B 61 200E":  "200B 61 200E", // its neighbours stay
		"AC AE 2D":      "AC AE 2D",
		"61 AD 301":     "61 301",
		"200D 301":      "301",
		// marks on both sides of it are one row behind that, and ordered again
		"61 301 AD 327":          "61 327 301",
		"61 301 200C 327":        "61 327 301",
		"61 301 200D 327":        "61 327 301",
		"E1 200D 323":            "61 323 301",
		"451 AD 323":             "65 323 308",
		"6D 301 200D 323 AD 327": "72 6E 327 323 301",
		"301 AD 323":             "323 301",
		"61 308 AD 301":          "61 308 301",
	} {
		skeleton(t, text(t, in), text(t, want))
	}
	alike(t, "\u00AD", "", true)
	alike(t, "pay\u200Dpal", "paypal", true)
	alike(t, "a\u0301\u200D\u0327", "\u00E1\u0327", true)
}

func TestP8_1Bytes(t *testing.T) {
	skeleton(t, "\xff", "\uFFFD")
	skeleton(t, "m\xe2\x82m", "rn\uFFFDrn")
	skeleton(t, "\xed\xa0\x80", "\uFFFD\uFFFD\uFFFD")
	skeleton(t, "\xc0\xad", "\uFFFD\uFFFD")
	skeleton(t, "\xad", "\uFFFD") // a byte, not the code point
	skeleton(t, "a\xcc", "a\uFFFD")
	skeleton(t, "a\xff\u0301\u0327", "a\uFFFD\u0327\u0301")
	skeleton(t, "a\u0301\xff\u0327", "a\u0301\uFFFD\u0327")
	skeleton(t, "\xf4\x90\x80\x80", strings.Repeat("\uFFFD", 4))
	alike(t, "a\xff", "a\xfe", true)
	alike(t, "a\xff", "a\uFFFD", true)
	alike(t, "a\xff", "a\xff\xff", false)
	alike(t, "a\xff", "a", false)
}

func TestP8_1Alike(t *testing.T) {
	for _, c := range []struct {
		a, b string
		want bool
	}{
		{"", "", true},
		{"", "a", false},
		{"a", "a", true},
		{"a", "A", false},
		{"a", "aa", false},
		{"1", "l", true},
		{"1", "\u0627", true},
		{"l", "I", false},
		{"0", "\u05E1", true},
		{"0", "O", false},
		{"\u03BF", "\u043E", true},
		{"m", "nr", false},
		{"rn1", "m\u0627", true},
		{"\u00E4", "a\u0308", true},
		{"\u00E4", "\u0430\u0308", true},
		{"\u00E4", "a", false},
		{"\u00E4", "a\u0308\u0308", false},
		{"a\u0323\u0308", "a\u0308\u0323", true},
		{"a\u0301\u0308", "a\u0308\u0301", false},
		{"\u0451", "\u00EB", true},
		{"\u03CC", "\u00F3", true},
		{"\u30FC", "\u4E00", true},
		{"\u0441\u043E\u0440\u0435", "cope", true},
		{"paypal.com", "p\u0430yp\u0430l.c\u043Em", true},
		{"paypal.com", "paypal.corn", true},
		{"paypal.com", "paypal.co", false},
	} {
		alike(t, c.a, c.b, c.want)
	}
}

// Each code point alone, those that the table does not have, too.
func TestP8_1EachCodePoint(t *testing.T) {
	for r := rune(0); r <= 0x20000; r++ {
		if r >= 0xD800 && r <= 0xDFFF {
			continue
		}
		s := string(r)
		if got, want := Skeleton(s), wordsSkeleton(t, s); got != want {
			t.Fatalf("Skeleton(%x): %+q, not %+q", r, got, want)
		}
	}
}

func TestP8_1ByTheWords(t *testing.T) {
	texts(2, pieces, func(s string) { byWords(t, s) })
	texts(4, fewPieces, func(s string) { byWords(t, s) })
	for seed := range uint64(2000) {
		byWords(t, picked(seed, int(seed%40), pieces))
		byWords(t, picked(seed, int(seed%20), fewPieces))
	}
}

func TestP8_1Long(t *testing.T) {
	n := 1 << 16
	skeleton(t, strings.Repeat("m", n), strings.Repeat("rn", n))
	skeleton(t, strings.Repeat("\u00AD", n), "")
	skeleton(t, "a"+strings.Repeat("\u0301\u200D\u0323", n), "a"+strings.Repeat("\u0323", n)+strings.Repeat("\u0301", n))
	alike(t, strings.Repeat("\u1E69", n), strings.Repeat("s\u0307\u0323", n), true)
	scripts(t, strings.Repeat("\u0430a", n), api.Latin, api.Cyrillic)
	level(t, strings.Repeat("a", n)+"\u00E1", api.LevelOne)
	level(t, strings.Repeat("a", n)+"\u0430", api.LevelAny)
	level(t, strings.Repeat("a", n), api.LevelASCII)
}

func TestP8_2Examples(t *testing.T) {
	scripts(t, "a\u0430", api.Latin, api.Cyrillic)
	level(t, "abc", 1)
	level(t, "ab\u0430", 5)
	level(t, "a\u3042\u4E00", 3)
	level(t, "\u05D0a", 4)
}

func TestP8_2Scripts(t *testing.T) {
	scripts(t, "")
	scripts(t, "0-9._ /\x00\x7f\u0080")
	scripts(t, "\u0301\u200C\u200D\u064B")
	scripts(t, "\u2603\U0001F600\u00AD\u30FC\uFF10\u3002")
	scripts(t, "abcXYZ", api.Latin)
	scripts(t, "a1\u0301", api.Latin)
	scripts(t, "\u00E9\u00AA\uFF21\uFB01\u212A", api.Latin)
	scripts(t, "\u2126", api.Greek)
	scripts(t, "\u093F\u094D", api.Devanagari) // marks of its own
	scripts(t, "\u0661\u06F1", api.Arabic)     // digits of its own
	// rising and each once, in whatever order they stand
	scripts(t, "\u0430a\u0430a", api.Latin, api.Cyrillic)
	scripts(t, "\U00010400\u4E00\u30A1\u3041\u0915\u0627\u05D0\u0410\u0391a", numbers[2:]...)
	scripts(t, "\u30A1\u30FC\u3041", api.Hiragana, api.Katakana)
	// of the text itself, not of what it looks like
	scripts(t, "\u0430", api.Cyrillic)
	scripts(t, "1", []uint8{}...)
	scripts(t, "\u0627", api.Arabic)
	scripts(t, "\u05E1", api.Hebrew)
	// of what nothing is known, and of bytes that are not well-formed, neither
	scripts(t, "\u0370\u0400\u0590\u0600\u0900\u3040\u4E8D\U00010450\U0010FFFF\u00D7\u00F7")
	scripts(t, "\xff\xe2\x82\uFFFD")
	scripts(t, "\xffa\xe2\x82\u05D0\xd7", api.Latin, api.Hebrew)
}

func TestP8_2LevelEdges(t *testing.T) {
	for s, want := range map[string]uint8{
		"":             api.LevelASCII,
		"a":            api.LevelASCII,
		"\x00":         api.LevelASCII,
		"\x7f":         api.LevelASCII,
		"a.1-\x7f":     api.LevelASCII,
		"\u0080":       api.LevelOne,
		"a\u0080":      api.LevelOne,
		"\u0080a":      api.LevelOne,
		"1":            api.LevelASCII,
		"\u2603":       api.LevelOne,
		"\u0301":       api.LevelOne,
		"1\u2603":      api.LevelOne,
		"a\u2603":      api.LevelOne,
		"a\u0301":      api.LevelOne,
		"\u0301\u00AD": api.LevelOne,
		"\xff":         api.LevelOne,
		"a\xff":        api.LevelOne,
		"a\xffb":       api.LevelOne,
		"\uFFFD":       api.LevelOne,
		"\u0430\xff":   api.LevelOne,
		"\u0430a\xff":  api.LevelAny,
		// one script beside ASCII that is everybody's
		"\u0430-1.":      api.LevelOne,
		"\u03B1\u2603":   api.LevelOne,
		"\u4E00\u30FC":   api.LevelOne,
		"\u05D0\u05E1":   api.LevelOne,
		"\u0430\u200D":   api.LevelOne,
		"\U00010428":     api.LevelOne,
		"\U0010FFFF1":    api.LevelOne,
		"\u3042\u3044":   api.LevelOne,
		"\u00E9tude":     api.LevelOne,
		"\uFF21\u212A":   api.LevelOne,
		"\u0627\u0661-1": api.LevelOne,
		// all among Latin, Hiragana, Katakana and Han
		"\u3042\u30A2":        api.LevelHigh,
		"\u3042\u4E00":        api.LevelHigh,
		"\u30A2\u4E00":        api.LevelHigh,
		"\u4E00a":             api.LevelHigh,
		"a\u3042":             api.LevelHigh,
		"a\u30A2":             api.LevelHigh,
		"\u3042\u30A2\u4E00":  api.LevelHigh,
		"a\u3042\u30A2":       api.LevelHigh,
		"a\u3042\u30A2\u4E00": api.LevelHigh,
		"1-a\u3042\u30A2\u4E00\u30FC\u2603\u0301": api.LevelHigh,
		// two with Latin
		"a\u05D0":          api.LevelMiddle,
		"a\u0628":          api.LevelMiddle,
		"a\u0915":          api.LevelMiddle,
		"a\U00010428":      api.LevelMiddle,
		"\u00E9\u05D0":     api.LevelMiddle,
		"\u05D01.a-\u2603": api.LevelMiddle,
		"a\u03B1":          api.LevelAny,
		"a\u0430":          api.LevelAny,
		"\u00E9\u03C2":     api.LevelAny,
		// two without
		"\u05D0\u0628":     api.LevelAny,
		"\u03B1\u0430":     api.LevelAny,
		"\u03B1\u05D0":     api.LevelAny,
		"\u0430\u0915":     api.LevelAny,
		"\u4E00\u05D0":     api.LevelAny,
		"\u3042\u0430":     api.LevelAny,
		"\u30A2\U00010428": api.LevelAny,
		// three
		"a\u05D0\u0628":                  api.LevelAny,
		"a\u4E00\u05D0":                  api.LevelAny,
		"a\u3042\u0430":                  api.LevelAny,
		"a\u03B1\u0430":                  api.LevelAny,
		"\u3042\u30A2\u05D0":             api.LevelAny,
		"a\u3042\u30A2\u4E00\u05D0":      api.LevelAny,
		"a\u3042\u30A2\u4E00\u03B1":      api.LevelAny,
		"a\u0628\U00010428":              api.LevelAny,
		strings.Join(oneOfEach, ""):      api.LevelAny,
		strings.Join(oneOfEach[3:], "a"): api.LevelAny,
		"\u0410\u0391A":                  api.LevelAny,
	} {
		level(t, s, want)
	}
}

// Every set of scripts there is, with letters of theirs.
func TestP8_2EverySet(t *testing.T) {
	for set := range 1 << len(oneOfEach) {
		s := ""
		var want []uint8
		for n, letter := range oneOfEach {
			if set>>n&1 == 0 {
				continue
			}
			s = letter + s
			if n >= 2 {
				want = append(want, uint8(n))
			}
		}
		scripts(t, s, want...)
		level(t, s, wordsLevel(s))
	}
}

func TestP8_2EachCodePoint(t *testing.T) {
	for r := rune(0); r <= 0x20000; r++ {
		if r >= 0xD800 && r <= 0xDFFF {
			continue
		}
		s := string(r)
		var want []uint8
		if script := unidata.Script(r); script > api.Inherited {
			want = []uint8{script}
		}
		scripts(t, s, want...)
		if r < 0x80 {
			level(t, s, api.LevelASCII)
		} else {
			level(t, s, api.LevelOne)
		}
	}
}

// Whoever ranges over scripts may leave at any place.
func TestP8_2LeftEarly(t *testing.T) {
	all := gathered([]rune(strings.Join(oneOfEach, ""))).all()
	for n := range 10 {
		var got []uint8
		for script := range all {
			got = append(got, script)
			if len(got) == n+1 {
				break
			}
		}
		if !slices.Equal(got, numbers[2:n+3]) {
			t.Errorf("the first %d: %v", n+1, got)
		}
	}
}

// What was answered once stays as it is, whatever is asked later and whatever is done to other answers.
func TestP8_2AnswersStay(t *testing.T) {
	s := "\u4E00\u05D0\u0430a"
	first, second := Scripts(s), Scripts(s)
	look := Skeleton(s)
	first = first[:cap(first)]
	for i := range first {
		first[i] = 99
	}
	Scripts("\U00010428\u30A2\u3042\u03B1")
	Skeleton("\u0628\u0915")
	if !slices.Equal(second, []uint8{api.Latin, api.Cyrillic, api.Hebrew, api.Han}) || look != "\u4E00\u05D0aa" {
		t.Errorf("Scripts: %v; Skeleton: %+q", second, look)
	}
	scripts(t, s, api.Latin, api.Cyrillic, api.Hebrew, api.Han)
}

func TestP8_3Names(t *testing.T) {
	all := strings.Split(chapterNames, ", ")
	for i, name := range all {
		if numbers[i] != uint8(i) {
			t.Fatalf("%s is %d", name, numbers[i])
		}
		if got := Name(numbers[i]); got != name {
			t.Errorf("Name(%d): %q, not %q", numbers[i], got, name)
		}
		if got, e := Of(name); got != numbers[i] || e != api.OK {
			t.Errorf("Of(%q): %d %v", name, got, e)
		}
	}
	for n := len(all); n <= 255; n++ {
		if got := Name(uint8(n)); got != "" {
			t.Errorf("Name(%d): %q", n, got)
		}
	}
}

func TestP8_3NoName(t *testing.T) {
	none := func(name string) {
		t.Helper()
		if n, e := Of(name); n != 0 || e != api.ErrNone {
			t.Errorf("Of(%q): %d %v", name, n, e)
		}
	}
	for name := range strings.SplitSeq(chapterNames, ", ") {
		none(strings.ToUpper(name))
		none(strings.ToLower(name))
		for n := range len(name) {
			none(name[:n])
			if n > 0 {
				none(name[n:])
			}
		}
		for _, more := range []string{" ", "s", "\x00", "\n", name, "\u0301"} {
			none(name + more)
			none(more + name)
		}
	}
	for _, name := range []string{"", " ", "Thai", "Zyyy", "Common,", chapterNames, "2", "\xff", "H\u0430n"} {
		none(name)
	}
}

func TestP8_4SkeletonOfSkeleton(t *testing.T) {
	itself := func(s string) {
		t.Helper()
		once := Skeleton(s)
		skeleton(t, once, once)
		alike(t, s, once, true)
		if !utf.Valid(once) {
			t.Errorf("Skeleton(%+q): %+q is not well-formed", s, once)
		}
	}
	for r := rune(0); r <= 0x20000; r++ {
		itself(string(r))
	}
	texts(2, pieces, itself)
	texts(4, fewPieces, itself)
	for seed := range uint64(2000) {
		itself(picked(seed, int(seed%60), pieces))
	}
}

func TestP8_4PutTogetherAlike(t *testing.T) {
	follows := func(s string) {
		t.Helper()
		alike(t, s, norm.Text(s), true)
		alike(t, s, utf.Clean(s), true)
		apart, _ := utf.Encode(norm.NFD(utf.Decode(s)))
		alike(t, s, apart, true)
	}
	texts(2, pieces, follows)
	texts(4, fewPieces, follows)
	for seed := range uint64(1000) {
		follows(picked(seed, int(seed%40), pieces))
	}
	// any two of a few marks' texts, told apart by nothing but what they are put together
	skeletons := map[string]string{}
	texts(5, []string{"s", "\u1E61", "\u1E63", "\u0307", "\u0323"}, func(s string) {
		one, is := skeletons[norm.Text(s)]
		if is && one != Skeleton(s) {
			t.Errorf("%+q: %+q, and %+q", s, one, Skeleton(s))
		}
		skeletons[norm.Text(s)] = Skeleton(s)
	})
}
