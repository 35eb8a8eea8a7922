package unidata

import (
	"strconv"
	"strings"
	"testing"

	"portcullis/api"
)

// What the chapter tells, in its own words, so that the tests hold the program to the text and not to a second list of numbers.

const chapterTable = `
| 2D | 2D | valid |  | Common | ES |  |  |  |
| 2E | 2E | valid |  | Common | CS |  |  |  |
| 30 | 39 | valid |  | Common | EN |  |  |  |
| 41 | 5A | mapped | +20 | Latin | L |  |  |  |
| 5F | 5F | valid |  | Common | ON |  |  |  |
| 61 | 7A | valid |  | Latin | L |  |  |  |
| AA | AA | mapped | 61 | Latin | L |  |  |  |
| AD | AD | ignored |  | Common | BN |  |  |  |
| B2 | B3 | mapped | -80 | Common | EN |  |  |  |
| B9 | B9 | mapped | 31 | Common | EN |  |  |  |
| BA | BA | mapped | 6F | Latin | L |  |  |  |
| C0 | D6 | mapped | +20 | Latin | L |  |  |  |
| D8 | DE | mapped | +20 | Latin | L |  |  |  |
| DF | DF | deviation |  | Latin | L |  |  |  |
| E0 | F6 | valid |  | Latin | L |  |  |  |
| F8 | FF | valid |  | Latin | L |  |  |  |
| 178 | 178 | mapped | FF | Latin | L |  |  |  |
| 1D5 | 1D5 | mapped | 1D6 | Latin | L |  |  |  |
| 1D6 | 1D6 | valid |  | Latin | L |  |  |  |
| 300 | 304 | valid |  | Inherited | NSM | 230 | mark | T |
| 306 | 308 | valid |  | Inherited | NSM | 230 | mark | T |
| 30A | 30A | valid |  | Inherited | NSM | 230 | mark | T |
| 323 | 323 | valid |  | Inherited | NSM | 220 | mark | T |
| 327 | 328 | valid |  | Inherited | NSM | 202 | mark | T |
| 386 | 386 | mapped | 3AC | Greek | L |  |  |  |
| 388 | 38A | mapped | +25 | Greek | L |  |  |  |
| 38C | 38C | mapped | 3CC | Greek | L |  |  |  |
| 38E | 38F | mapped | +3F | Greek | L |  |  |  |
| 391 | 3A1 | mapped | +20 | Greek | L |  |  |  |
| 3A3 | 3A9 | mapped | +20 | Greek | L |  |  |  |
| 3AC | 3AF | valid |  | Greek | L |  |  |  |
| 3B1 | 3C1 | valid |  | Greek | L |  |  |  |
| 3C2 | 3C2 | deviation |  | Greek | L |  |  |  |
| 3C3 | 3C9 | valid |  | Greek | L |  |  |  |
| 3CC | 3CE | valid |  | Greek | L |  |  |  |
| 401 | 401 | mapped | 451 | Cyrillic | L |  |  |  |
| 405 | 406 | mapped | +50 | Cyrillic | L |  |  |  |
| 408 | 408 | mapped | 458 | Cyrillic | L |  |  |  |
| 410 | 42F | mapped | +20 | Cyrillic | L |  |  |  |
| 430 | 44F | valid |  | Cyrillic | L |  |  |  |
| 451 | 451 | valid |  | Cyrillic | L |  |  |  |
| 455 | 456 | valid |  | Cyrillic | L |  |  |  |
| 458 | 458 | valid |  | Cyrillic | L |  |  |  |
| 5D0 | 5EA | valid |  | Hebrew | R |  |  |  |
| 627 | 627 | valid |  | Arabic | AL |  |  | R |
| 628 | 628 | valid |  | Arabic | AL |  |  | D |
| 62A | 62A | valid |  | Arabic | AL |  |  | D |
| 62F | 62F | valid |  | Arabic | AL |  |  | R |
| 633 | 633 | valid |  | Arabic | AL |  |  | D |
| 644 | 646 | valid |  | Arabic | AL |  |  | D |
| 648 | 648 | valid |  | Arabic | AL |  |  | R |
| 64A | 64A | valid |  | Arabic | AL |  |  | D |
| 64B | 64B | valid |  | Inherited | NSM | 27 | mark | T |
| 660 | 669 | valid |  | Arabic | AN |  |  |  |
| 6F0 | 6F9 | valid |  | Arabic | EN |  |  |  |
| 915 | 939 | valid |  | Devanagari | L |  |  |  |
| 93F | 93F | valid |  | Devanagari | L |  | mark |  |
| 94D | 94D | valid |  | Devanagari | NSM | 9 | mark | T |
| 1E60 | 1E60 | mapped | 1E61 | Latin | L |  |  |  |
| 1E61 | 1E61 | valid |  | Latin | L |  |  |  |
| 1E62 | 1E62 | mapped | 1E63 | Latin | L |  |  |  |
| 1E63 | 1E63 | valid |  | Latin | L |  |  |  |
| 1E68 | 1E68 | mapped | 1E69 | Latin | L |  |  |  |
| 1E69 | 1E69 | valid |  | Latin | L |  |  |  |
| 1E9E | 1E9E | mapped | 73 73 | Latin | L |  |  |  |
| 200C | 200C | deviation |  | Inherited | BN |  |  |  |
| 200D | 200D | deviation |  | Inherited | BN |  |  | C |
| 2126 | 2126 | mapped | 3C9 | Greek | L |  |  |  |
| 212A | 212A | mapped | 6B | Latin | L |  |  |  |
| 212B | 212B | mapped | E5 | Latin | L |  |  |  |
| 2603 | 2603 | valid |  | Common | ON |  |  |  |
| 3002 | 3002 | mapped | 2E | Common | ON |  |  |  |
| 3041 | 3096 | valid |  | Hiragana | L |  |  |  |
| 30A1 | 30FA | valid |  | Katakana | L |  |  |  |
| 30FC | 30FC | valid |  | Common | L |  |  |  |
| 4E00 | 4E8C | valid |  | Han | L |  |  |  |
| FB01 | FB01 | mapped | 66 69 | Latin | L |  |  |  |
| FF05 | FF05 | mapped | 25 | Common | ON |  |  |  |
| FF0D | FF0D | mapped | 2D | Common | ES |  |  |  |
| FF0E | FF0E | mapped | 2E | Common | CS |  |  |  |
| FF0F | FF0F | mapped | 2F | Common | CS |  |  |  |
| FF10 | FF19 | mapped | -FEE0 | Common | EN |  |  |  |
| FF21 | FF3A | mapped | -FEC0 | Latin | L |  |  |  |
| FF41 | FF5A | mapped | -FEE0 | Latin | L |  |  |  |
| FF61 | FF61 | mapped | 2E | Common | ON |  |  |  |
| 10400 | 10427 | mapped | +28 | Deseret | L |  |  |  |
| 10428 | 1044F | valid |  | Deseret | L |  |  |  |
| 1F600 | 1F600 | valid |  | Common | ON |  |  |  |
`

const chapterPairs = `
C0 = 41 300; C1 = 41 301; C2 = 41 302; C3 = 41 303; C4 = 41 308; C5 = 41 30A; C7 = 43 327; C8 = 45 300;
C9 = 45 301; CA = 45 302; CB = 45 308; CC = 49 300; CD = 49 301; CE = 49 302; CF = 49 308; D1 = 4E 303;
D2 = 4F 300; D3 = 4F 301; D4 = 4F 302; D5 = 4F 303; D6 = 4F 308; D9 = 55 300; DA = 55 301; DB = 55 302;
DC = 55 308; DD = 59 301; E0 = 61 300; E1 = 61 301; E2 = 61 302; E3 = 61 303; E4 = 61 308; E5 = 61 30A;
E7 = 63 327; E8 = 65 300; E9 = 65 301; EA = 65 302; EB = 65 308; EC = 69 300; ED = 69 301; EE = 69 302;
EF = 69 308; F1 = 6E 303; F2 = 6F 300; F3 = 6F 301; F4 = 6F 302; F5 = 6F 303; F6 = 6F 308; F9 = 75 300;
FA = 75 301; FB = 75 302; FC = 75 308; FD = 79 301; FF = 79 308; 178 = 59 308; 1D5 = DC 304; 1D6 = FC 304;
386 = 391 301; 388 = 395 301; 389 = 397 301; 38A = 399 301; 38C = 39F 301; 38E = 3A5 301; 38F = 3A9 301;
3AC = 3B1 301; 3AD = 3B5 301; 3AE = 3B7 301; 3AF = 3B9 301; 3CC = 3BF 301; 3CD = 3C5 301; 3CE = 3C9 301;
401 = 415 308; 419 = 418 306; 439 = 438 306; 451 = 435 308; 1E60 = 53 307; 1E61 = 73 307; 1E62 = 53 323;
1E63 = 73 323; 1E68 = 1E62 307; 1E69 = 1E63 307
`

const chapterSingles = `
2126 = 3A9; 212A = 4B; 212B = C5
`

const chapterLikes = `
30 like 6F; 31 like 6C; 6D like 72 6E; 3B1 like 61; 3BD like 76; 3BF like 6F; 3C1 like 70; 430 like 61;
435 like 65; 43E like 6F; 440 like 70; 441 like 63; 443 like 79; 445 like 78; 455 like 73; 456 like 69;
458 like 6A; 5E1 like 6F; 627 like 6C; 30FC like 4E00
`

// line is one line of the chapter's table, read.
type line struct {
	lo, hi                         rune
	status, script, bidi, class, j uint8
	mark                           bool
	to                             string
}

// hex reads a number of the chapter.
func hex(t *testing.T, s string) rune {
	t.Helper()
	n, err := strconv.ParseInt(s, 16, 32)
	if err != nil {
		t.Fatal(err)
	}
	return rune(n)
}

// hexes reads numbers with blanks between.
func hexes(t *testing.T, s string) []rune {
	t.Helper()
	var l []rune
	for _, f := range strings.Fields(s) {
		l = append(l, hex(t, f))
	}
	return l
}

// number is what a word of the table stands for.
func number(t *testing.T, word string, of map[string]uint8) uint8 {
	t.Helper()
	n, is := of[word]
	if !is {
		t.Fatalf("no such word: %q", word)
	}
	return n
}

var (
	statuses = map[string]uint8{"valid": api.Valid, "ignored": api.Ignored, "mapped": api.Mapped, "deviation": api.Deviation}
	scripts  = map[string]uint8{"Common": api.Common, "Inherited": api.Inherited, "Latin": api.Latin, "Greek": api.Greek, "Cyrillic": api.Cyrillic, "Hebrew": api.Hebrew, "Arabic": api.Arabic, "Devanagari": api.Devanagari, "Hiragana": api.Hiragana, "Katakana": api.Katakana, "Han": api.Han, "Deseret": api.Deseret}
	bidis    = map[string]uint8{"ON": api.BidiON, "L": api.BidiL, "R": api.BidiR, "AL": api.BidiAL, "EN": api.BidiEN, "ES": api.BidiES, "CS": api.BidiCS, "AN": api.BidiAN, "NSM": api.BidiNSM, "BN": api.BidiBN}
	joinings = map[string]uint8{"": api.JoinU, "R": api.JoinR, "D": api.JoinD, "T": api.JoinT, "C": api.JoinC}
	classes  = map[string]uint8{"": 0, "9": 9, "27": 27, "202": 202, "220": 220, "230": 230}
)

// lines reads the chapter's table.
func lines(t *testing.T) []line {
	t.Helper()
	var l []line
	for s := range strings.Lines(strings.TrimSpace(chapterTable)) {
		c := strings.Split(s, "|")
		for i := range c {
			c[i] = strings.TrimSpace(c[i])
		}
		if len(c) != 11 || c[8] != "" && c[8] != "mark" {
			t.Fatalf("no line: %q", s)
		}
		l = append(l, line{
			lo: hex(t, c[1]), hi: hex(t, c[2]),
			status: number(t, c[3], statuses), to: c[4],
			script: number(t, c[5], scripts), bidi: number(t, c[6], bidis),
			class: number(t, c[7], classes), mark: c[8] == "mark", j: number(t, c[9], joinings),
		})
	}
	if len(l) != 88 {
		t.Fatalf("%d lines", len(l))
	}
	return l
}

// mapping is what the line maps r to, as its words say.
func (l line) mapping(t *testing.T, r rune) []rune {
	t.Helper()
	switch {
	case strings.HasPrefix(l.to, "+"):
		return []rune{r + hex(t, l.to[1:])}
	case strings.HasPrefix(l.to, "-"):
		return []rune{r - hex(t, l.to[1:])}
	}
	return hexes(t, l.to)
}

// told reads one of the chapter's lists: a code point, a word, and what it is.
func told(t *testing.T, text, word string, n int) map[rune][]rune {
	t.Helper()
	m := map[rune][]rune{}
	for s := range strings.SplitSeq(text, ";") {
		r, is, found := strings.Cut(strings.TrimSpace(s), " "+word+" ")
		if !found {
			t.Fatalf("not told: %q", s)
		}
		m[hex(t, r)] = hexes(t, is)
	}
	if len(m) != n {
		t.Fatalf("%d told, not %d", len(m), n)
	}
	return m
}

func toldPairs(t *testing.T) map[rune][]rune   { t.Helper(); return told(t, chapterPairs, "=", 80) }
func toldSingles(t *testing.T) map[rune][]rune { t.Helper(); return told(t, chapterSingles, "=", 3) }
func toldLikes(t *testing.T) map[rune][]rune   { t.Helper(); return told(t, chapterLikes, "like", 20) }
