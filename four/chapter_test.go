package four

import (
	"fmt"
	"math/big"
	"math/rand/v2"
	"regexp"
	"strings"
	"testing"

	"portcullis/api"
)

// What the chapter's words say, done word by word and slowly, so that the tests hold the program to the text.

var (
	bySixteen = regexp.MustCompile(`^0[xX]([0-9A-Fa-f]*)$`)
	byEight   = regexp.MustCompile(`^0([0-7]+)$`)
	byTen     = regexp.MustCompile(`^(0|[1-9][0-9]*)$`)
	tens      = regexp.MustCompile(`^[0-9]+$`)
)

// wordsValue answers the number s, however great; nil if it is none.
func wordsValue(s string) *big.Int {
	for _, c := range []struct {
		form *regexp.Regexp
		base int
	}{{bySixteen, 16}, {byEight, 8}, {byTen, 10}} {
		if m := c.form.FindStringSubmatch(s); m != nil {
			n := new(big.Int)
			if m[1] != "" {
				n.SetString(m[1], c.base)
			}
			return n
		}
	}
	return nil
}

// power is 256 to the power of n.
func power(n int) *big.Int {
	return new(big.Int).Exp(big.NewInt(256), big.NewInt(int64(n)), nil)
}

func wordsNumber(s string) (uint64, api.Errno) {
	n := wordsValue(s)
	switch {
	case n == nil:
		return 0, api.ErrForm
	case n.Cmp(power(4)) >= 0:
		return 0, api.ErrLong
	}
	return n.Uint64(), api.OK
}

func wordsParts(s string) []string {
	l := strings.Split(s, ".")
	if len(l) > 1 && l[len(l)-1] == "" {
		l = l[:len(l)-1]
	}
	return l
}

func wordsEnds(s string) bool {
	l := wordsParts(s)
	last := l[len(l)-1]
	return tens.MatchString(last) || bySixteen.MatchString(last)
}

func wordsParse(s string) (uint32, api.Errno) {
	l := wordsParts(s)
	if len(l) > 4 {
		return 0, api.ErrForm
	}
	for _, part := range l {
		if wordsValue(part) == nil {
			return 0, api.ErrForm
		}
	}
	sum := new(big.Int)
	for i, part := range l {
		n := wordsValue(part)
		if i < len(l)-1 {
			if n.Cmp(big.NewInt(255)) > 0 {
				return 0, api.ErrLong
			}
			sum.Add(sum, n.Mul(n, power(3-i)))
			continue
		}
		if n.Cmp(power(5-len(l))) >= 0 {
			return 0, api.ErrLong
		}
		sum.Add(sum, n)
	}
	return uint32(sum.Uint64()), api.OK
}

func wordsText(a uint32) string {
	return fmt.Sprintf("%d.%d.%d.%d", a/(256*256*256), a/(256*256)%256, a/256%256, a%256)
}

// byWords holds all calls on s to the chapter's words, and to what follows from them.
func byWords(t *testing.T, s string) {
	t.Helper()
	n, e := wordsNumber(s)
	number(t, s, n, e)
	ends(t, s, wordsEnds(s))
	a, e := wordsParse(s)
	parsed(t, s, a, e)
	if e == api.OK {
		text(t, a, wordsText(a))
		parsed(t, Text(a), a, api.OK)
	}
}

// number holds Number to what it must answer.
func number(t *testing.T, s string, want uint64, e api.Errno) {
	t.Helper()
	if got, err := Number(s); got != want || err != e {
		t.Errorf("Number(%.90q): %d, %v, not %d, %v", s, got, err, want, e)
	}
}

// ends holds Ends to what it must answer.
func ends(t *testing.T, s string, want bool) {
	t.Helper()
	if got := Ends(s); got != want {
		t.Errorf("Ends(%.90q): %v", s, got)
	}
}

// parsed holds Parse to what it must answer.
func parsed(t *testing.T, s string, want uint32, e api.Errno) {
	t.Helper()
	if got, err := Parse(s); got != want || err != e {
		t.Errorf("Parse(%.90q): %x, %v, not %x, %v", s, got, err, want, e)
	}
}

// text holds Text to what it must answer.
func text(t *testing.T, a uint32, want string) {
	t.Helper()
	if got := Text(a); got != want {
		t.Errorf("Text(%x): %q, not %q", a, got, want)
	}
}

// texts calls f with every text of at most n of these pieces.
func texts(n int, these []string, f func(s string)) {
	var grow func(s string, left int)
	grow = func(s string, left int) {
		f(s)
		if left == 0 {
			return
		}
		for _, piece := range these {
			grow(s+piece, left-1)
		}
	}
	grow("", n)
}

// picked is a text of n of these pieces; the same seed picks the same.
func picked(seed uint64, n int, these []string) string {
	pick := rand.New(rand.NewPCG(seed, 10))
	var b strings.Builder
	for range n {
		b.WriteString(these[pick.IntN(len(these))])
	}
	return b.String()
}
