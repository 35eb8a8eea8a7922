package six

import (
	"fmt"
	"math/rand/v2"
	"regexp"
	"strconv"
	"strings"
	"testing"

	"portcullis/api"
)

// What the chapter's words say, done word by word and slowly, so that the tests hold the program to the text.

const (
	onePiece  = `([0-9a-fA-F]{1,4})`
	oneNumber = `(0|[1-9][0-9]?|1[0-9][0-9]|2[0-4][0-9]|25[0-5])`
)

var (
	eightPieces = regexp.MustCompile(`^` + strings.Repeat(onePiece+`:`, 7) + onePiece + `$`)
	sixAndFour  = regexp.MustCompile(`^` + strings.Repeat(onePiece+`:`, 6) + strings.Repeat(oneNumber+`\.`, 3) + oneNumber + `$`)
)

// value answers the number s, of digits of that base.
func value(s string, base int) uint16 {
	n, err := strconv.ParseInt(s, base, 32)
	if err != nil {
		panic(err)
	}
	return uint16(n)
}

// wordsWhole reads an address of which every piece is told.
func wordsWhole(s string) (a [8]uint16, ok bool) {
	if m := eightPieces.FindStringSubmatch(s); m != nil {
		for i := range 8 {
			a[i] = value(m[1+i], 16)
		}
		return a, true
	}
	if m := sixAndFour.FindStringSubmatch(s); m != nil {
		for i := range 6 {
			a[i] = value(m[1+i], 16)
		}
		a[6] = value(m[7], 10)*256 + value(m[8], 10)
		a[7] = value(m[9], 10)*256 + value(m[10], 10)
		return a, true
	}
	return a, false
}

// wordsFilled is s with that many pieces that are 0 in place of the two colons at that place.
func wordsFilled(s string, at, many int) string {
	front, back := s[:at], s[at+2:]
	if front != "" {
		front += ":"
	}
	if back != "" {
		back = ":" + back
	}
	return front + strings.TrimSuffix(strings.Repeat("0:", many), ":") + back
}

func wordsParse(s string) ([8]uint16, api.Errno) {
	if a, ok := wordsWhole(s); ok {
		return a, api.OK
	}
	for at := 0; at+2 <= len(s); at++ {
		if s[at:at+2] != "::" {
			continue
		}
		for many := 1; many <= 8; many++ {
			if a, ok := wordsWhole(wordsFilled(s, at, many)); ok {
				return a, api.OK
			}
		}
	}
	return [8]uint16{}, api.ErrForm
}

func wordsText(a [8]uint16) string {
	var list []string
	for _, n := range a {
		list = append(list, fmt.Sprintf("%x", n))
	}
	for many := 8; many >= 2; many-- {
		for at := 0; at+many <= 8; at++ {
			if strings.Trim(strings.Join(list[at:at+many], ""), "0") == "" {
				return strings.Join(list[:at], ":") + "::" + strings.Join(list[at+many:], ":")
			}
		}
	}
	return strings.Join(list, ":")
}

// byWords holds both calls on s to the chapter's words, and to what follows from them.
func byWords(t *testing.T, s string) {
	t.Helper()
	a, e := wordsParse(s)
	parsed(t, s, a, e)
	if e == api.OK {
		back(t, a)
	}
}

// back holds Text of a to the chapter's words, and Parse of it to a.
func back(t *testing.T, a [8]uint16) {
	t.Helper()
	text(t, a, wordsText(a))
	parsed(t, Text(a), a, api.OK)
}

// parsed holds Parse to what it must answer.
func parsed(t *testing.T, s string, want [8]uint16, e api.Errno) {
	t.Helper()
	if got, err := Parse(s); got != want || err != e {
		t.Errorf("Parse(%.90q): %x, %v, not %x, %v", s, got, err, want, e)
	}
}

// refused holds Parse of each to ErrForm.
func refused(t *testing.T, list ...string) {
	t.Helper()
	for _, s := range list {
		parsed(t, s, [8]uint16{}, api.ErrForm)
	}
}

// text holds Text to what it must answer.
func text(t *testing.T, a [8]uint16, want string) {
	t.Helper()
	if got := Text(a); got != want {
		t.Errorf("Text(%x): %q, not %q", a, got, want)
	}
}

// texts calls f with every text of at most n of these.
func texts(n int, these []string, f func(s string)) {
	var grow func(s string, left int)
	grow = func(s string, left int) {
		f(s)
		if left == 0 {
			return
		}
		for _, one := range these {
			grow(s+one, left-1)
		}
	}
	grow("", n)
}

// picked is a text of n of these; the same seed picks the same.
func picked(seed uint64, n int, these []string) string {
	pick := rand.New(rand.NewPCG(seed, 11))
	var b strings.Builder
	for range n {
		b.WriteString(these[pick.IntN(len(these))])
	}
	return b.String()
}

// writings calls f with texts of a: each piece in one of these forms, two colons in place of each row of noughts or of none, the end in both ways.
func writings(a [8]uint16, forms []string, f func(s string)) {
	for _, form := range forms {
		var list []string
		for _, n := range a {
			list = append(list, fmt.Sprintf(form, n))
		}
		numbers := fmt.Sprintf("%d.%d.%d.%d", a[6]>>8, a[6]&255, a[7]>>8, a[7]&255)
		shortened(a, list, f)
		shortened(a, append(list[:6:6], numbers), f)
	}
}

// shortened calls f with the whole list, and with two colons in place of each row of it that is of noughts; a last one that is two pieces is never in a row.
func shortened(a [8]uint16, list []string, f func(s string)) {
	f(strings.Join(list, ":"))
	single := len(list)
	if single < 8 {
		single--
	}
	for at := range single {
		for end := at + 1; end <= single && a[end-1] == 0; end++ {
			f(strings.Join(list[:at], ":") + "::" + strings.Join(list[end:], ":"))
		}
	}
}
