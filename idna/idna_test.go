package idna

import (
	"math"
	"slices"
	"strings"
	"testing"

	"portcullis/api"
	"portcullis/puny"
	"portcullis/unidata"
)

// pieces is some of all kinds: dots of each kind, the prefix and what may stand behind it, letters of both directions, marks, joiners, what is mapped, ignored and disallowed, bytes that are not well-formed.
var pieces = []string{
	"a", "b", "1", "-", "_", ".", "..", "\u3002", "\uFF0E", "\uFF61", "xn--", "XN--", "\uFF58\uFF4E\uFF0D\uFF0D",
	"bcher-kva", "tda", "4db", "abc-", "A", "\u00DC", "u", "\u0308", "\u0301", "\u00DF", "\u1E9E", "\u00AD",
	"\u05D0", "\u0627", "\u0628", "\u0660", "\u06F1", "\u064B", "\u0915", "\u094D", "\u200C", "\u200D",
	"\u2603", "\u4E00", "\U0001F600", "\U00010400", "\u212B", "\uFF05", "\uFF0F", " ", "/", "\u0305", "\uFFFD", "\xff", "\xe2\x82", "\xed\xa0\x80",
}

// fewPieces is the same, for longer texts: what changes how labels stand to each other.
var fewPieces = []string{"a", "-", ".", "\u3002", "xn--", "tda", "4db", "\u00AD", "\u05D0", "\u0308", "\u00FC", "/"}

// mapped holds Map to the code points that it must answer.
func mapped(t *testing.T, s, want string) {
	t.Helper()
	if got := Map(s); !slices.Equal(got, hexes(t, want)) {
		t.Errorf("Map(%q): %x, not %s", s, got, want)
	}
}

// processed holds Process to the labels, as texts, and to the faults that it must answer.
func processed(t *testing.T, s string, hyphens bool, labels []string, faults ...uint16) {
	t.Helper()
	gotLabels, gotFaults := Process(s, hyphens)
	var got []string
	for _, l := range gotLabels {
		got = append(got, bytesOf(t, l))
	}
	if !slices.Equal(got, labels) || !slices.Equal(gotFaults, faults) {
		t.Errorf("Process(%q, %v): %q %x, not %q %x", s, hyphens, got, gotFaults, labels, faults)
	}
}

// ascii holds ASCII, without hyphens and without long, to what it must answer.
func ascii(t *testing.T, s, want string, wantE api.Errno) {
	t.Helper()
	asciiLong(t, s, false, want, wantE)
}

func asciiLong(t *testing.T, s string, long bool, want string, wantE api.Errno) {
	t.Helper()
	if got, e := ASCII(s, false, long); got != want || e != wantE {
		t.Errorf("ASCII(%.90q, false, %v): %.90q %v, not %.90q %v", s, long, got, e, want, wantE)
	}
}

// unicode holds Unicode, without hyphens, to what it must answer.
func unicode(t *testing.T, s, want string, wantWell bool) {
	t.Helper()
	if got, well := Unicode(s, false); got != want || well != wantWell {
		t.Errorf("Unicode(%.90q, false): %.90q %v, not %.90q %v", s, got, well, want, wantWell)
	}
}

func TestP7_1Map(t *testing.T) {
	mapped(t, "", "")
	mapped(t, "a1-_.", "61 31 2D 5F 2E")
	mapped(t, "AZ", "61 7A")
	mapped(t, "\u00DC", "FC")
	mapped(t, "\u1E9E\uFB01", "73 73 66 69")
	mapped(t, "\uFF21\uFF41\uFF11\uFF0D", "61 61 31 2D")
	mapped(t, "\U00010400", "10428")
	// deviations stay
	mapped(t, "\u00DF\u03C2\u200C\u200D", "DF 3C2 200C 200D")
	// ignored ones go, disallowed ones stay
	mapped(t, "\u00AD", "")
	mapped(t, "a\u00ADb", "61 62")
	mapped(t, " /@\u0305\u0080", "20 2F 40 305 80")
	mapped(t, "\uFF05\uFF0F", "25 2F")
	// it is put together behind that, not ahead of it
	mapped(t, "u\u0308", "FC")
	mapped(t, "U\u0308", "FC")
	mapped(t, "\uFF35\u0308", "FC")
	mapped(t, "u\u00AD\u0308", "FC")
	mapped(t, "u\u0308\u0304", "1D6")
	mapped(t, "\u1E60\u0323", "1E69")
	mapped(t, "s\u0307\u0323", "1E69")
	mapped(t, "a\u0301\u0327", "E1 327")
	mapped(t, "/\u0301", "2F 301")
	// the other dots
	mapped(t, "\u3002\uFF0E\uFF61", "2E 2E 2E")
	mapped(t, "u.\u0308", "75 2E 308")
}

func TestP7_1MapBytes(t *testing.T) {
	mapped(t, "\xff", "FFFD")
	mapped(t, "a\xe2\x82b", "61 FFFD 62")
	mapped(t, "\xed\xa0\x80", "FFFD FFFD FFFD")
	mapped(t, "\xc0\x80", "FFFD FFFD")
	mapped(t, "\uFFFD", "FFFD")
	mapped(t, "\xf0\x9f\x98", "FFFD")
	mapped(t, "u\xff\u0308", "75 FFFD 308")
}

func TestP7_1MapAll(t *testing.T) {
	for r := rune(0); r <= 0x11000; r++ {
		s := string(r)
		if got, want := Map(s), wordsMap(s); !slices.Equal(got, want) {
			t.Fatalf("Map(%x): %x, not %x", r, got, want)
		}
		if unidata.Status(r) == api.Disallowed && len(Map(s)) == 0 {
			t.Fatalf("Map(%x): nothing is left", r)
		}
	}
}

func TestP7_1Split(t *testing.T) {
	for in, want := range map[string][]string{
		"":                              {""},
		"2E":                            {"", ""},
		"2E 2E":                         {"", "", ""},
		"61":                            {"61"},
		"61 62":                         {"61 62"},
		"61 2E 62":                      {"61", "62"},
		"2E 61":                         {"", "61"},
		"61 2E":                         {"61", ""},
		"61 2E 2E 62":                   {"61", "", "62"},
		"2E 61 2E 62 63 2E":             {"", "61", "62 63", ""},
		"3002 FF0E FF61":                {"3002 FF0E FF61"},
		"41 2E AD":                      {"41", "AD"},
		"75 2E 308":                     {"75", "308"},
		"-1 2E -2E":                     {"-1", "-2E"},
		"D800 2E DFFF 2E 110000":        {"D800", "DFFF", "110000"},
		"7FFFFFFF 2E -80000000":         {"7FFFFFFF", "-80000000"},
		"11002E 2E -7FFFFFD2 2E 1002E":  {"11002E", "-7FFFFFD2", "1002E"},
		"78 6E 2D 2D 2E 78 6E 2D 2D 61": {"78 6E 2D 2D", "78 6E 2D 2D 61"},
	} {
		l := hexes(t, in)
		kept := slices.Clone(l)
		var lists [][]rune
		for _, w := range want {
			lists = append(lists, hexes(t, w))
		}
		if got := Split(l); !sameLists(got, lists) {
			t.Errorf("Split(%s): %x, not %x", in, got, lists)
		}
		if !slices.Equal(l, kept) {
			t.Errorf("Split(%s) has changed its row: %x", in, l)
		}
	}
	if got := Split([]rune{}); len(got) != 1 || len(got[0]) != 0 {
		t.Errorf("Split of nothing: %x", got)
	}
}

func TestP7_1SplitAll(t *testing.T) {
	these := []rune{'.', 'a', 0x3002, -'.', math.MinInt32, math.MaxInt32, 0xDC2E}
	var grow func(l []rune)
	grow = func(l []rune) {
		got := Split(l)
		if want := wordsSplit(l); !sameLists(got, want) {
			t.Fatalf("Split(%x): %x, not %x", l, got, want)
		}
		if len(l) == 5 {
			return
		}
		for _, r := range these {
			grow(append(slices.Clip(l), r))
		}
	}
	grow(nil)
}

func TestP7_1SplitMemory(t *testing.T) {
	row := []rune("ab.cd..e")
	kept := slices.Clone(row)
	labels := Split(row)
	for i := range labels {
		labels[i] = append(labels[i], 'X', 'Y', 'Z')
		labels[i][0] = 'Q'
	}
	if !slices.Equal(row, kept) {
		t.Errorf("a label that was changed has changed the row: %s", string(row))
	}
	want := []string{"QbXYZ", "QdXYZ", "QYZ", "QXYZ"}
	for i, l := range labels {
		if string(l) != want[i] {
			t.Errorf("label %d: %s, not %s", i, string(l), want[i])
		}
	}
	again := Split(row)
	for i := range row {
		row[i] = 'Q'
	}
	if want := Split(kept); !sameLists(again, want) {
		t.Errorf("a row that was changed has changed its labels: %x, not %x", again, want)
	}
}

func TestP7_1LabelsDoNotRunOn(t *testing.T) {
	row := []rune("ab..cd.")
	for one := range betweenDots(row[:6:7]) {
		if cap(one) != len(one) {
			t.Errorf("the label %s may be added to in its place", string(one))
		}
	}
	told := 0
	for range betweenDots(row) {
		if told++; told == 2 {
			break
		}
	}
	if told != 2 {
		t.Errorf("%d labels were told, not 2", told)
	}
}

func TestP7_1Process(t *testing.T) {
	processed(t, "a", false, []string{"a"}, 0)
	processed(t, "a.b1.c-d", false, []string{"a", "b1", "c-d"}, 0, 0, 0)
	processed(t, "B\u00DCCHER.example", false, []string{"b\u00FCcher", "example"}, 0, 0)
	processed(t, "\u4E00\u4E01.\u3042", true, []string{"\u4E00\u4E01", "\u3042"}, 0, 0)
	processed(t, "\u05D01.a", false, []string{"\u05D01", "a"}, 0, 0)
	processed(t, "\u05D0a.b", false, []string{"\u05D0a", "b"}, api.BidiWrong, 0)
}

func TestP7_1Dots(t *testing.T) {
	processed(t, "", false, []string{""}, 0)
	processed(t, ".", false, []string{"", ""}, 0, 0)
	processed(t, "..", true, []string{"", "", ""}, 0, 0, 0)
	processed(t, ".a", false, []string{"", "a"}, 0, 0)
	processed(t, "a.", false, []string{"a", ""}, 0, 0)
	processed(t, "a..b", false, []string{"a", "", "b"}, 0, 0, 0)
	processed(t, "a\u3002b\uFF0Ec\uFF61d", false, []string{"a", "b", "c", "d"}, 0, 0, 0, 0)
	processed(t, "\u3002", false, []string{"", ""}, 0, 0)
	// what is empty once it is mapped
	processed(t, "\u00AD", false, []string{""}, 0)
	processed(t, "a.\u00AD\u00AD.b", false, []string{"a", "", "b"}, 0, 0, 0)
	processed(t, "a.\u00AD", false, []string{"a", ""}, 0, 0)
	// a mark does not reach over a dot
	processed(t, "u.\u0308", false, []string{"u", "\u0308"}, 0, api.MarkFirst)
}

func TestP7_1Prefix(t *testing.T) {
	processed(t, "xn--bcher-kva", false, []string{"b\u00FCcher"}, 0)
	processed(t, "xn--bcher-kva", true, []string{"b\u00FCcher"}, 0)
	processed(t, "XN--BCHER-KVA", false, []string{"b\u00FCcher"}, 0)
	processed(t, "Xn--Bcher-Kva.xN--tda", false, []string{"b\u00FCcher", "\u00FC"}, 0, 0)
	processed(t, "\uFF58\uFF4E\uFF0D\uFF0Dtda", false, []string{"\u00FC"}, 0)
	processed(t, "x\u00ADn--tda", false, []string{"\u00FC"}, 0)
	processed(t, "a.xn--tda.b", true, []string{"a", "\u00FC", "b"}, 0, 0, 0)
	// nothing behind it, or what is read as nothing
	processed(t, "xn--", false, []string{"xn--"}, api.PunyWrong)
	processed(t, "xn--", true, []string{"xn--"}, api.PunyWrong)
	processed(t, "xn--\u00AD", true, []string{"xn--"}, api.PunyWrong)
	processed(t, "xn--.a", true, []string{"xn--", "a"}, api.PunyWrong, 0)
	// something else than ASCII
	processed(t, "xn--\u00FC", true, []string{"xn--\u00FC"}, api.PunyWrong)
	processed(t, "xn--tda\u00DF", false, []string{"xn--tda\u00DF"}, api.PunyWrong)
	processed(t, "xn--a\u0301", false, []string{"xn--\u00E1"}, api.PunyWrong)
	processed(t, "xn--\u00FC-tda", false, []string{"xn--\u00FC-tda"}, api.PunyWrong)
	processed(t, "xn--tda\u0080", false, []string{"xn--tda\u0080"}, api.PunyWrong)
	processed(t, "xn--\xff", false, []string{"xn--\uFFFD"}, api.PunyWrong)
	// what is not read
	processed(t, "xn--t", false, []string{"xn--t"}, api.PunyWrong)
	processed(t, "xn--td", true, []string{"xn--td"}, api.PunyWrong)
	processed(t, "xn--99999999", false, []string{"xn--99999999"}, api.PunyWrong)
	processed(t, "xn---tda", false, []string{"xn---tda"}, api.PunyWrong)
	processed(t, "xn---", true, []string{"xn---"}, api.PunyWrong)
	processed(t, "xn--tda_", false, []string{"xn--tda_"}, api.PunyWrong)
	processed(t, "xn--tda ", false, []string{"xn--tda "}, api.PunyWrong)
	long := "xn--" + strings.Repeat("a", 61) + "-tda"
	processed(t, long, false, []string{long}, api.PunyWrong)
	// what is read as ASCII alone
	processed(t, "xn--abc-", false, []string{"xn--abc-"}, api.PunyWrong)
	processed(t, "xn--ABC-", true, []string{"xn--abc-"}, api.PunyWrong)
	processed(t, "xn----", false, []string{"xn----"}, api.PunyWrong)
	processed(t, "xn--\x7f-", false, []string{"xn--\x7f-"}, api.PunyWrong)
	processed(t, "xn--\x7f-a", false, []string{"\u0080\x7f"}, api.NotValid)
	// nearly the prefix
	processed(t, "xn-", false, []string{"xn-"}, 0)
	processed(t, "xn-tda", false, []string{"xn-tda"}, 0)
	processed(t, "nx--tda", false, []string{"nx--tda"}, 0)
	processed(t, "axn--tda", false, []string{"axn--tda"}, 0)
	processed(t, "nx--tda", true, []string{"nx--tda"}, api.HyphenMid)
}

// behindPrefix is a text that is read as these code points.
func behindPrefix(t *testing.T, hexed string) string {
	t.Helper()
	s, e := puny.Encode(hexes(t, hexed))
	if e != api.OK {
		t.Fatalf("%s: %v", hexed, e)
	}
	return "xn--" + s
}

func TestP7_1ReadFaults(t *testing.T) {
	// with hyphens
	for hexed, want := range map[string]uint16{
		"FC":               0,
		"DF":               0,
		"DC":               api.NotValid, // what is read is not mapped
		"AD":               api.NotValid,
		"3002":             api.NotValid,
		"FF0E FC":          api.NotValid,
		"20 FC":            api.NotValid,
		"61 305":           api.NotValid,
		"75 308":           api.NotNFC,
		"308":              api.MarkFirst,
		"212B":             api.NotNFC | api.NotValid,
		"61 200D":          api.JoinWrong,
		"61 62 2D 2D FC":   api.HyphenMid,
		"2D FC":            api.HyphenEnd,
		"FC 2D":            api.HyphenEnd,
		"78 6E 2D 2D FC":   api.HyphenMid | api.Prefixed,
		"2D 62 2D 2D 308":  api.HyphenMid | api.HyphenEnd,
		"308 62 2D 2D 2D":  api.HyphenMid | api.HyphenEnd | api.MarkFirst,
		"61 5D0":           api.BidiWrong,
		"5D0 DC":           api.BidiWrong | api.NotValid,
		"30A 61 30A 200C":  api.MarkFirst | api.NotNFC | api.JoinWrong,
		"5D0 31 660 200D":  api.BidiWrong | api.JoinWrong,
		"78 6E 2D 2D 4E00": api.HyphenMid | api.Prefixed,
		"1F600":            0,
		"5D0 308":          0,
		"628 200C 628":     0,
	} {
		in := behindPrefix(t, hexed)
		read := bytesOf(t, hexes(t, hexed))
		processed(t, in, true, []string{read}, want)
		processed(t, in, false, []string{read}, want&^(api.HyphenMid|api.HyphenEnd))
	}
}

func TestP7_1Hyphens(t *testing.T) {
	processed(t, "-a.ab--c.b-", true, []string{"-a", "ab--c", "b-"}, api.HyphenEnd, api.HyphenMid, api.HyphenEnd)
	processed(t, "-a.ab--c.b-", false, []string{"-a", "ab--c", "b-"}, 0, 0, 0)
	processed(t, "\uFF0Da.-", true, []string{"-a", "-"}, api.HyphenEnd, api.HyphenEnd)
	processed(t, "a-b.c", true, []string{"a-b", "c"}, 0, 0)
	// PunyWrong stands alone: what stays as it is isn't asked for its Faults
	processed(t, "xn--a-", true, []string{"xn--a-"}, api.PunyWrong)
	processed(t, "xn--a", true, []string{"\u0080"}, api.NotValid)
	processed(t, "xn--a b", true, []string{"xn--a b"}, api.PunyWrong)
}

func TestP7_1Several(t *testing.T) {
	processed(t, "\u0308a\u200D/.b.-c d-", true,
		[]string{"\u0308a\u200D/", "b", "-c d-"},
		api.MarkFirst|api.JoinWrong|api.NotValid, 0, api.HyphenEnd|api.NotValid)
	processed(t, "xn--td.\u05D0.a b.xn--", false,
		[]string{"xn--td", "\u05D0", "a b", "xn--"},
		api.PunyWrong, 0, api.NotValid, api.PunyWrong|api.BidiWrong)
	processed(t, "a\xff.\uFF05.\uFF0Fb", false, []string{"a\uFFFD", "%", "/b"}, api.NotValid, api.NotValid, api.NotValid)
}

func TestP7_1Directions(t *testing.T) {
	// each alone
	processed(t, "\u05D0", false, []string{"\u05D0"}, 0)
	processed(t, "1a", false, []string{"1a"}, 0)
	processed(t, "a-", false, []string{"a-"}, 0)
	processed(t, "\u0660", false, []string{"\u0660"}, api.BidiWrong)
	processed(t, "a\u0660", false, []string{"a\u0660"}, api.BidiWrong)
	// one that goes right makes all of them stand well, wherever it stands
	processed(t, "\u05D0.1a", false, []string{"\u05D0", "1a"}, 0, api.BidiWrong)
	processed(t, "1a.\u05D0", false, []string{"1a", "\u05D0"}, api.BidiWrong, 0)
	processed(t, "1a.b.\u0627.c-.d", false, []string{"1a", "b", "\u0627", "c-", "d"}, api.BidiWrong, 0, 0, api.BidiWrong, 0)
	processed(t, "1a.b.c-", false, []string{"1a", "b", "c-"}, 0, 0, 0)
	processed(t, "\u05D0.", false, []string{"\u05D0", ""}, 0, 0)
	processed(t, ".\u05D0..a", false, []string{"", "\u05D0", "", "a"}, 0, 0, 0, 0)
	processed(t, "1a.xn--4db", false, []string{"1a", "\u05D0"}, api.BidiWrong, 0)
	processed(t, "xn--4db.xn--tda.\u2603", false, []string{"\u05D0", "\u00FC", "\u2603"}, 0, 0, api.BidiWrong)
	// one that stays as it is goes its way, too
	processed(t, "xn--\u05D0.1", false, []string{"xn--\u05D0", "1"}, api.PunyWrong|api.BidiWrong, api.BidiWrong)
	processed(t, "xn--.\u05D0", false, []string{"xn--", "\u05D0"}, api.PunyWrong|api.BidiWrong, 0)
	processed(t, "xn--td.\u05D0", false, []string{"xn--td", "\u05D0"}, api.PunyWrong, 0)
	processed(t, "xn--td.1a", false, []string{"xn--td", "1a"}, api.PunyWrong, 0)
	// a digit that goes right
	processed(t, "\u0661.a1.1a", false, []string{"\u0661", "a1", "1a"}, api.BidiWrong, 0, api.BidiWrong)
	processed(t, "\u06F1.1a", false, []string{"\u06F1", "1a"}, 0, 0)
}

func TestP7_1ProcessMemory(t *testing.T) {
	const s = "ab.xn--tda.xn--a..c.xn--bcher-kva"
	labels, faults := Process(s, false)
	want, wantFaults := wordsProcess(s, false)
	for i := range labels {
		before := slices.Clone(labels)
		for k := range before {
			before[k] = slices.Clone(labels[k])
		}
		grown := append(labels[i], 'X', 'Y', 'Z')
		grown[0] = 'Q'
		if len(labels[i]) > 0 {
			labels[i][0] = 'Q'
			before[i][0] = 'Q'
		}
		if !sameLists(labels, before) {
			t.Errorf("label %d runs into another one: %x, not %x", i, labels, before)
		}
	}
	faults[0] = 0xFFFF
	if labels, faults = Process(s, false); !sameLists(labels, want) || !slices.Equal(faults, wantFaults) {
		t.Errorf("Process(%q): %x %x, not %x %x", s, labels, faults, want, wantFaults)
	}
	Map(s)[0] = 'Q'
	if Map(s)[0] != 'a' {
		t.Error("Map does not answer new memory")
	}
}

func TestP7_1Long(t *testing.T) {
	// neither Map nor Process has a bound
	s := strings.Repeat("B\u00DCcher\u00AD.xn--tda.", 3000)
	if got := len(Map(s)); got != 3000*len("bucher.xn--tda.") {
		t.Errorf("Map of a long text: %d", got)
	}
	labels, faults := Process(s, true)
	if len(labels) != 6001 || len(faults) != 6001 {
		t.Fatalf("Process of a long text: %d, %d", len(labels), len(faults))
	}
	for i, l := range labels {
		want := []string{"b\u00FCcher", "\u00FC"}[i%2]
		if i == 6000 {
			want = ""
		}
		if string(l) != want || faults[i] != 0 {
			t.Fatalf("Process of a long text: %d: %q %x", i, string(l), faults[i])
		}
	}
}

func TestP7_2Examples(t *testing.T) {
	ascii(t, "B\u00DCCHER.example", "xn--bcher-kva.example", api.OK)
	ascii(t, "bu\u0308cher", "xn--bcher-kva", api.OK)
	ascii(t, "fa\u00DF", "xn--fa-hia", api.OK)
	ascii(t, "a\u3002b", "a.b", api.OK)
	ascii(t, "a..b", "a..b", api.OK)
	asciiLong(t, "a..b", true, "", api.ErrLong)
	asciiLong(t, "a.", true, "a.", api.OK)
	ascii(t, "xn--a", "", api.ErrHost)
	ascii(t, "xn--bcher-kva", "xn--bcher-kva", api.OK)
	ascii(t, "xn--abc-", "", api.ErrHost)
}

func TestP7_2Ordinary(t *testing.T) {
	for in, want := range map[string]string{
		"a":                         "a",
		"example":                   "example",
		"www.Example.com":           "www.example.com",
		"a-b.c_d.1":                 "a-b.c_d.1",
		"\u4E00.\u3042":             "xn--4gq.xn--l8j",
		"\u05D01.a":                 "xn--1-zhc.a",
		"\u0430\u0431\u0432.\u03B1": "xn--80acd.xn--mxa",
		"\U00010400":                "xn--hj8c",
		"\u0915\u094D\u200D":        "xn--11b6iy14e",
		"XN--BCHER-KVA.XN--TDA.DE":  "xn--bcher-kva.xn--tda.de",
		"-a.b--c.d-":                "-a.b--c.d-",
		"127.0.0.1":                 "127.0.0.1",
		"\uFB01x":                   "fix",
	} {
		asciiLong(t, in, true, wantOf(t, in, want), api.OK)
		asciiLong(t, in, false, wantOf(t, in, want), api.OK)
	}
}

// wantOf answers want, once it is what the chapter's words make of in.
func wantOf(t *testing.T, in, want string) string {
	t.Helper()
	if got, e := wordsASCII(in, false, false); got != want || e != api.OK {
		t.Errorf("the words make of %q %q %v, not %q", in, got, e, want)
	}
	return want
}

func TestP7_2Faults(t *testing.T) {
	for _, in := range []string{
		"/", " ", "a b", "a%b", "\uFF05", "a.\uFF0Fb", "a:1", "[", "\u0305", "\u0080", "\u200E", "\U0010FFFF", "\uFFFD",
		"\xff", "a\xe2\x82.b", "\xed\xa0\x80", "\xc0\x80", "a.b.\xf0\x9f\x98",
		"\u0301", "a.\u0308b", "\u093F", "a\u200D", "\u200C", "a.b.c\u200C",
		"\u05D0a", "a\u05D0", "1a.\u05D0", "\u05D0.b-", "\u0660",
		"xn--", "xn--.a", "a.xn--", "xn--\u00FC", "xn--td", "xn--99999999", "xn--abc-", "XN--ABC-", "xn----", "xn---tda", "xn--a\u00AD",
		behindPrefix(t, "DC"), behindPrefix(t, "75 308"), behindPrefix(t, "308 61"), behindPrefix(t, "78 6E 2D 2D FC"), behindPrefix(t, "AD"),
		"a..xn--a", ".\u0301.", "\u0301..",
	} {
		for _, hyphens := range []bool{false, true} {
			for _, long := range []bool{false, true} {
				if got, e := ASCII(in, hyphens, long); got != "" || e != api.ErrHost {
					t.Errorf("ASCII(%q, %v, %v): %q %v, not ErrHost", in, hyphens, long, got, e)
				}
			}
		}
	}
}

func TestP7_2Hyphens(t *testing.T) {
	for _, in := range []string{"-a", "a-", "ab--c", "a.-", "\u00FC-", "-\u00FC.b", "ab--\u00FC", behindPrefix(t, "FC 2D"), behindPrefix(t, "61 62 2D 2D FC")} {
		if got, e := ASCII(in, true, false); got != "" || e != api.ErrHost {
			t.Errorf("ASCII(%q, true, false): %q %v, not ErrHost", in, got, e)
		}
		want, _ := wordsASCII(in, false, false)
		if got, e := ASCII(in, false, false); got == "" || got != want || e != api.OK {
			t.Errorf("ASCII(%q, false, false): %q %v, not %q", in, got, e, want)
		}
	}
	for _, in := range []string{"a-b", "a--b", "abc--d", "xn--bcher-kva", "\u00FC-b", "x-n--a"} {
		if got, e := ASCII(in, true, true); got == "" || e != api.OK {
			t.Errorf("ASCII(%q, true, true): %q %v", in, got, e)
		}
	}
}

func TestP7_2NotWritten(t *testing.T) {
	umlauts := func(n int) string { return strings.Repeat("\u00FC", n) }
	// 63 bytes behind the prefix, and one more; 64 code points
	ascii(t, umlauts(61), "xn--tda"+strings.Repeat("a", 60), api.OK)
	ascii(t, umlauts(62), "", api.ErrHost)
	ascii(t, umlauts(64), "", api.ErrHost)
	asciiLong(t, umlauts(64), true, "", api.ErrHost)
	ascii(t, "a."+umlauts(64)+".b", "", api.ErrHost)
	ascii(t, strings.Repeat("a", 63)+"\u00FC", "", api.ErrHost)
	ascii(t, strings.Repeat("\u4E00\U0001F600", 31), "", api.ErrHost)
	// an empty label, or one that is too long, would be ErrLong: ErrHost is named first
	asciiLong(t, "."+umlauts(64), true, "", api.ErrHost)
	asciiLong(t, strings.Repeat("a", 64)+".\u0301", true, "", api.ErrHost)
	// ASCII alone is not written, and may be of any length
	ascii(t, strings.Repeat("a", 64), strings.Repeat("a", 64), api.OK)
	ascii(t, strings.Repeat("A1-", 500), strings.Repeat("a1-", 500), api.OK)
}

// tail finds how many a are wanted ahead of an umlaut, for its label to have so many bytes as ASCII.
func tail(t *testing.T, size int) string {
	t.Helper()
	for n := range size {
		in := strings.Repeat("a", n) + "\u00FC"
		if s, e := puny.Encode([]rune(in)); e == api.OK && len(s)+4 == size {
			return in
		}
	}
	t.Fatalf("no label has %d bytes", size)
	return ""
}

func TestP7_2LongWords(t *testing.T) {
	a := func(n int) string { return strings.Repeat("a", n) }
	asciiLong(t, a(63), true, a(63), api.OK)
	asciiLong(t, a(64), true, "", api.ErrLong)
	asciiLong(t, a(64), false, a(64), api.OK)
	asciiLong(t, a(63)+".", true, a(63)+".", api.OK)
	asciiLong(t, a(64)+".", true, "", api.ErrLong)
	asciiLong(t, "b."+a(64), true, "", api.ErrLong)
	asciiLong(t, "b."+a(63)+".c", true, "b."+a(63)+".c", api.OK)
	asciiLong(t, "b."+a(64)+".c", true, "", api.ErrLong)
	// what counts is the label as ASCII, its prefix too
	for size := 62; size <= 67; size++ {
		in := tail(t, size)
		want, e := wordsASCII(in, false, false)
		if len(want) != size || e != api.OK {
			t.Fatalf("a label of %d bytes: %q %v", size, want, e)
		}
		asciiLong(t, in, false, want, api.OK)
		if size <= 63 {
			asciiLong(t, in, true, want, api.OK)
		} else {
			asciiLong(t, in, true, "", api.ErrLong)
		}
	}
	// more than 63 bytes ahead, less behind
	asciiLong(t, strings.Repeat("\u00FC", 40), true, wantOf(t, strings.Repeat("\u00FC", 40), "xn--tda"+strings.Repeat("a", 39)), api.OK)
	asciiLong(t, a(63)+"\u00AD", true, a(63), api.OK)
}

func TestP7_2LongEmpty(t *testing.T) {
	for _, in := range []string{"", ".", "..", ".a", "a..b", "a..", "..a", ".a.", "\u3002", "\u00AD", "\u00AD.", "\u00AD.a", "a.\u00AD.b", "a.\u00AD.", "\uFF61\u00AD"} {
		asciiLong(t, in, true, "", api.ErrLong)
		want, e := wordsASCII(in, false, false)
		if e != api.OK {
			t.Fatalf("%q: %v", in, e)
		}
		asciiLong(t, in, false, want, api.OK)
	}
	asciiLong(t, "", false, "", api.OK)
	asciiLong(t, ".", false, ".", api.OK)
	for in, want := range map[string]string{"a.": "a.", "a.b.": "a.b.", "a\u3002": "a.", "a.\u00AD": "a.", "\u00FC.": "xn--tda."} {
		asciiLong(t, in, true, want, api.OK)
	}
}

// nameOf is a name of n bytes, of labels of 63 as far as they go.
func nameOf(n int) string {
	s := strings.Repeat(strings.Repeat("a", 63)+".", n/64+1)[:n]
	if strings.HasSuffix(s, ".") {
		s = s[:n-2] + ".b"
	}
	return s
}

func TestP7_2LongNames(t *testing.T) {
	for n := 250; n <= 260; n++ {
		in := nameOf(n)
		if len(in) != n {
			t.Fatalf("a name of %d bytes has %d", n, len(in))
		}
		asciiLong(t, in, false, in, api.OK)
		asciiLong(t, in+".", false, in+".", api.OK)
		if n <= 253 {
			asciiLong(t, in, true, in, api.OK)
			asciiLong(t, in+".", true, in+".", api.OK)
		} else {
			asciiLong(t, in, true, "", api.ErrLong)
			asciiLong(t, in+".", true, "", api.ErrLong)
		}
	}
	short := strings.Repeat("a.", 126) + "b" // 253 bytes, of labels of one
	asciiLong(t, short, true, short, api.OK)
	asciiLong(t, short+".", true, short+".", api.OK)
	asciiLong(t, short+"c", true, "", api.ErrLong)
	asciiLong(t, short+"c.", true, "", api.ErrLong)
	asciiLong(t, short+"..", true, "", api.ErrLong)
	// what counts is the name as ASCII: fewer bytes ahead, and more
	umlauts := strings.Repeat("\u00FC.", 31)
	out := strings.Repeat("xn--tda.", 31)
	asciiLong(t, umlauts+"aaaaa", true, out+"aaaaa", api.OK)
	asciiLong(t, umlauts+"aaaaaa", true, "", api.ErrLong)
	wide := strings.Repeat("\uFF41.", 126) + "\uFF42"
	asciiLong(t, wide, true, short, api.OK)
}

func TestP7_2LongTexts(t *testing.T) {
	for _, long := range []bool{false, true} {
		for _, more := range []string{strings.Repeat("a", 4097), strings.Repeat("/", 4097), strings.Repeat("\u00AD", 2048) + "a", strings.Repeat(".", 5000), strings.Repeat("\xff", 1<<16)} {
			asciiLong(t, more, long, "", api.ErrLong)
		}
	}
	full := strings.Repeat("a", 4096)
	asciiLong(t, full, false, full, api.OK)
	asciiLong(t, full, true, "", api.ErrLong)
	asciiLong(t, strings.Repeat("/", 4096), true, "", api.ErrHost)
	dots := strings.Repeat("ab.", 1365) + "c"
	asciiLong(t, dots, false, dots, api.OK)
	asciiLong(t, dots+"d", false, "", api.ErrLong)
	soft := "a" + strings.Repeat("\u00AD", 2047) + "b"
	asciiLong(t, soft, true, "ab", api.OK)
	asciiLong(t, soft+"c", true, "", api.ErrLong)
	// what comes of it may be longer
	asciiLong(t, strings.Repeat("\u00FC.", 1365), false, strings.Repeat("xn--tda.", 1365), api.OK)
}

func TestP7_3Unicode(t *testing.T) {
	unicode(t, "XN--BCHER-KVA", "b\u00FCcher", true)
	unicode(t, "", "", true)
	unicode(t, ".", ".", true)
	unicode(t, "a", "a", true)
	unicode(t, "www.Example.com.", "www.example.com.", true)
	unicode(t, "a..b", "a..b", true)
	unicode(t, "a\u3002b\uFF0Ec\uFF61", "a.b.c.", true)
	unicode(t, "\u00AD.\u00AD", ".", true)
	unicode(t, "FA\u00DF.xn--fa-hia", "fa\u00DF.fa\u00DF", true)
	unicode(t, "xn--4db.xn--tda", "\u05D0.\u00FC", true)
	unicode(t, "u\u0308.\U00010400\U0001F600", "\u00FC.\U00010428\U0001F600", true)
}

func TestP7_3Faults(t *testing.T) {
	// the labels are answered beside a false, too
	unicode(t, "xn--a", "\u0080", false)
	unicode(t, "XN--TD.B\u00DC", "xn--td.b\u00FC", false)
	unicode(t, "xn--abc-.d", "xn--abc-.d", false)
	unicode(t, "a.xn--", "a.xn--", false)
	for _, hexed := range []string{"DC", "75 308", "61 5D0", "308", "200D 61", "78 6E 2D 2D FC"} {
		unicode(t, behindPrefix(t, hexed), bytesOf(t, hexes(t, hexed)), false)
	}
	unicode(t, "a b.C", "a b.c", false)
	unicode(t, "a\xff.\xe2\x82", "a\uFFFD.\uFFFD", false)
	unicode(t, "\u05D0a", "\u05D0a", false)
	unicode(t, "1a.xn--4db", "1a.\u05D0", false)
	unicode(t, "a.\u0301", "a.\u0301", false)
	unicode(t, "\uFF05\uFF0F", "%/", false)
	for in, without := range map[string]bool{"-a": true, "ab--c.d": true, "d.a-": true, "a-b": true, "/-": false} {
		if got, well := Unicode(in, false); got != in || well != without {
			t.Errorf("Unicode(%q, false): %q %v", in, got, well)
		}
		if got, well := Unicode(in, true); got != in || well != (in == "a-b") {
			t.Errorf("Unicode(%q, true): %q %v", in, got, well)
		}
	}
}

func TestP7_3Long(t *testing.T) {
	a := func(n int) string { return strings.Repeat("a", n) }
	unicode(t, a(4096), a(4096), true)
	unicode(t, a(4097), "", false)
	unicode(t, "A"+strings.Repeat("\u00AD", 2047)+"B", "ab", true)
	unicode(t, "A"+strings.Repeat("\u00AD", 2048), "", false)
	unicode(t, strings.Repeat(".", 4097), "", false)
	unicode(t, strings.Repeat("\xff", 4096), strings.Repeat("\uFFFD", 4096), false)
	// it asks neither for MaxWord nor for MaxName, nor whether a label can be written
	unicode(t, strings.Repeat("\u00FC", 2048), strings.Repeat("\u00FC", 2048), true)
	// what comes of it may be longer
	unicode(t, strings.Repeat("xn--4gqaaaaaaaaaaa.", 200), strings.Repeat(strings.Repeat("\u4E00", 12)+".", 200), true)
}

func TestP7_3ByTheWords(t *testing.T) {
	texts(2, pieces, func(s string) { byWords(t, s) })
	texts(3, fewPieces, func(s string) { byWords(t, s) })
	for seed := range uint64(2000) {
		byWords(t, picked(seed, int(seed%12)+3, pieces))
	}
	for seed := range uint64(200) {
		byWords(t, picked(seed, int(seed%100)+12, fewPieces))
	}
	for seed := range uint64(8) {
		byWords(t, picked(seed, 1000+int(seed)*200, pieces))
	}
}

func TestP7_3ReadByTheWords(t *testing.T) {
	signs := strings.Split("a b 0 9 z - k t d", " ")
	texts(3, signs, func(s string) { byWords(t, "xn--"+s) })
	for seed := range uint64(800) {
		byWords(t, "a.XN--"+picked(seed, int(seed%70), signs))
		l := Map(picked(seed, int(seed%8)+1, pieces))
		if s, e := puny.Encode(l); e == api.OK {
			byWords(t, "xn--"+s+".b")
		}
	}
}

// follows holds what P7.4 says to s. What stands in P7.2 and P7.3 of MaxUrl holds for what is handed back, too.
func follows(t *testing.T, s string) {
	t.Helper()
	for _, hyphens := range []bool{false, true} {
		for _, long := range []bool{false, true} {
			name, e := ASCII(s, hyphens, long)
			if again, e2 := ASCII(name, hyphens, long); e == api.OK && len(name) <= api.MaxUrl && (again != name || e2 != api.OK) {
				t.Errorf("ASCII of ASCII(%q) is %q %v, not %q", s, again, e2, name)
			}
			text, well := Unicode(s, hyphens)
			if again, e2 := ASCII(text, hyphens, long); well && len(text) <= api.MaxUrl && (again != name || e2 != e) {
				t.Errorf("ASCII of Unicode(%q) is %q %v, not %q %v", s, again, e2, name, e)
			}
			other := bytesOf(t, Map(s))
			if again, e2 := ASCII(other, hyphens, long); again != name || e2 != e {
				t.Errorf("ASCII of Map(%q) is %q %v, not %q %v", s, again, e2, name, e)
			}
		}
	}
}

func TestP7_4Follows(t *testing.T) {
	texts(2, pieces, func(s string) { follows(t, s) })
	texts(3, fewPieces, func(s string) { follows(t, s) })
	plain := []string{"a", "B", "1", ".", "\u00DC", "u\u0308", "\u4E00", "\uFF21", "xn--tda", "\u00DF", "\u3002", "s\u0307", "\u0323"}
	for seed := range uint64(800) {
		follows(t, picked(seed, int(seed%12)+3, pieces))
		follows(t, picked(seed, int(seed%40), plain))
	}
}

func TestP7_4MappedAlike(t *testing.T) {
	for want, alike := range map[string][]string{
		"xn--bcher-kva.example.": {
			"b\u00FCcher.example.", "B\u00DCCHER.EXAMPLE\u3002", "bu\u0308cher.example.", "BU\u0308CHER\uFF0Eexample\uFF61",
			"\uFF42\uFF55\u0308\uFF43\uFF48\uFF45\uFF52.\uFF25xample.", "b\u00FCch\u00ADer.ex\u00ADample.\u00AD", "xn--bcher-kva.example.",
			"XN--BCHER-KVA.Example.", "\uFF38\uFF2E\uFF0D\uFF0Dbcher-kva.example.", "B\uFF35\u00AD\u0308CHER.example.",
		},
		"xn--1ig": {"\u1E69", "\u1E68", "s\u0323\u0307", "s\u0307\u0323", "S\u0307\u0323", "\u1E63\u0307", "\u1E61\u0323", "\uFF33\u0323\u0307"},
		"xn--5ca": {"\u00E5", "\u00C5", "\u212B", "a\u030A", "A\u030A", "\uFF41\u030A"},
		"ss":      {"\u1E9E", "SS", "sS", "\uFF53s"},
		"k.k":     {"\u212A.k", "K\u3002\uFF4B"},
	} {
		for _, s := range alike {
			asciiLong(t, s, true, wantOf(t, s, want), api.OK)
		}
	}
}
