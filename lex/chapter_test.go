package lex

import (
	"fmt"
	"math/rand/v2"
	"regexp"
	"slices"
	"strconv"
	"strings"
	"testing"
	"unsafe"

	"portcullis/api"
	"portcullis/utf"
)

// What the chapter's words say, done word by word and slowly, so that the tests hold the program to the text.

// The forms of what stands at a place of a line, of a byte that may not be, of a word and of lines of kinds.
var (
	blanksForm = regexp.MustCompile(`^[ \t]+`)
	remarkForm = regexp.MustCompile(`^#.*$`)
	wordForm   = regexp.MustCompile(`^[^ \t,!"#]+`)
	plainForm  = regexp.MustCompile(`^[^"\\]+`)
	signForm   = regexp.MustCompile(`^\\["\\]`)
	numberForm = regexp.MustCompile(`^\\u\{([0-9A-Fa-f]{1,6})\}`)
	byteForm   = regexp.MustCompile(`[\x00-\x08\x0a-\x1f\x7f]`)
	wholeForm  = regexp.MustCompile(`^[^\x00-\x20\x7f,!"#]+$`)
	kindsForm  = regexp.MustCompile(`^([1-4]+5)*$`)
)

func wordsLex(text string) ([]api.Token, api.Fault) {
	if len(text) > 65536 {
		return nil, api.Fault{Err: api.ErrLong}
	}
	var all []api.Token
	for i, line := range wordsLines(text) {
		l, e, at := wordsLine(line, i+1)
		if e != api.OK {
			return nil, api.Fault{Err: e, Line: i + 1, At: at}
		}
		all = append(all, l...)
	}
	return all, api.Fault{}
}

func wordsLines(text string) []string {
	l := strings.Split(text, "\n")
	for i := range len(l) - 1 {
		if strings.HasSuffix(l[i], "\r") {
			l[i] = l[i][:len(l[i])-1]
		}
	}
	if l[len(l)-1] == "" {
		l = l[:len(l)-1]
	}
	return l
}

// wordsLine is the tokens of a line, or the error that it has, and where.
func wordsLine(line string, number int) (l []api.Token, e api.Errno, at int) {
	for at < len(line) {
		_, n, whole := utf.Next(line[at:])
		if !whole {
			return nil, api.ErrUtf, at
		}
		at += n
	}
	if m := byteForm.FindStringIndex(line); m != nil {
		return nil, api.ErrByte, m[0]
	}
	for at = 0; at < len(line); {
		rest := line[at:]
		token := api.Token{Line: number, At: at}
		n := 1
		if m := blanksForm.FindString(rest) + remarkForm.FindString(rest); m != "" {
			at += len(m)
			continue
		} else if m := wordForm.FindString(rest); m != "" {
			token.Kind, token.Text, n = 1, m, len(m)
		} else if rest[0] == '"' {
			text, long, wrong := wordsQuoted(rest)
			if long == 0 {
				return nil, api.ErrText, at + wrong
			}
			token.Kind, token.Text, n = 2, text, long
		} else if rest[0] == ',' {
			token.Kind = 3
		} else {
			token.Kind = 4
		}
		l = append(l, token)
		at += n
	}
	if len(l) > 0 {
		l = append(l, api.Token{Kind: 5, Line: number, At: len(line)})
	}
	return l, api.OK, 0
}

// wordsQuoted is what the text says that s begins with, and of how many bytes it is with its quotes; if it is none, 0 bytes, and where that is told.
func wordsQuoted(s string) (text string, long, wrong int) {
	for at := 1; at < len(s); {
		rest := s[at:]
		if rest[0] == '"' {
			return text, at + 1, 0
		}
		if m := plainForm.FindString(rest); m != "" {
			text, at = text+m, at+len(m)
		} else if m := signForm.FindString(rest); m != "" {
			text, at = text+m[1:], at+len(m)
		} else if m := numberForm.FindStringSubmatch(rest); m != nil {
			r, _ := strconv.ParseInt(m[1], 16, 64)
			if r > 1114111 || r >= 55296 && r <= 57343 {
				return "", 0, at
			}
			text, at = text+string(rune(r)), at+len(m[0])
		} else {
			return "", 0, at
		}
	}
	return "", 0, 0
}

func wordsQuote(s string) (string, api.Errno) {
	if !utf.Valid(s) {
		return "", api.ErrUtf
	}
	if len(s) > 65536 {
		return "", api.ErrLong
	}
	return wordsInQuotes(s), api.OK
}

func wordsInQuotes(s string) string {
	var b strings.Builder
	for i := range len(s) {
		if c := s[i]; c < 32 || c == 127 {
			fmt.Fprintf(&b, `\u{%x}`, c)
		} else if c == '"' || c == '\\' {
			b.WriteString(`\` + s[i:i+1])
		} else {
			b.WriteByte(c)
		}
	}
	return `"` + b.String() + `"`
}

func wordsWrite(l []api.Token) (string, api.Errno) {
	var row strings.Builder
	for _, t := range l {
		word, text := t.Kind == 1, t.Kind == 2
		if word && !wholeForm.MatchString(t.Text) || (word || text) && !utf.Valid(t.Text) || !word && !text && t.Text != "" {
			return "", api.ErrArg
		}
		if t.Kind > 5 {
			return "", api.ErrArg
		}
		row.WriteString(strconv.Itoa(int(t.Kind)))
	}
	kinds := row.String()
	if !kindsForm.MatchString(kinds) {
		return "", api.ErrArg
	}
	var b strings.Builder
	for i, t := range l {
		if i > 0 && kinds[i-1] != '4' && kinds[i-1] != '5' && t.Kind != 3 && t.Kind != 5 {
			b.WriteString(" ")
		}
		b.WriteString([]string{1: t.Text, 2: wordsInQuotes(t.Text), 3: ",", 4: "!", 5: "\n"}[t.Kind])
	}
	if b.Len() > 65536 {
		return "", api.ErrLong
	}
	return b.String(), api.OK
}

// byWords holds all calls of s, and of its tokens, to the chapter's words and to what follows from them.
func byWords(t *testing.T, s string) {
	t.Helper()
	want, f := wordsLex(s)
	lexed(t, s, want, f)
	stand(t, s)
	writtenByWords(t, want)
	q, e := wordsQuote(s)
	quotedAs(t, s, q, e)
}

// writtenByWords holds Write of l to the chapter's words; what is written is read as l.
func writtenByWords(t *testing.T, l []api.Token) {
	t.Helper()
	s, e := wordsWrite(l)
	writes(t, l, s, e)
	if e == api.OK {
		thereAndBack(t, l)
	}
}

// thereAndBack holds Lex of Write of l to l, but for where its tokens stand.
func thereAndBack(t *testing.T, l []api.Token) {
	t.Helper()
	s, e := Write(l)
	got, f := Lex(s)
	if e != api.OK || f != (api.Fault{}) || !slices.Equal(nowhere(got), nowhere(l)) {
		t.Errorf("Lex of Write of %.200v: %v, %.200q, %.200v, %v", l, e, s, got, f)
	}
}

// stand holds Lex of s to this: where a token stands, there it is read, alone and whole.
func stand(t *testing.T, s string) {
	t.Helper()
	l, _ := Lex(s)
	lines := wordsLines(s)
	for i, x := range l {
		line := lines[x.Line-1]
		if x.Kind == api.TokEnd {
			if x.At != len(line) {
				t.Errorf("%.200q: an end at %d of a line of %d bytes", s, x.At, len(line))
			}
			continue
		}
		alone, f := Lex(line[x.At:l[i+1].At])
		want := []api.Token{{Kind: x.Kind, Text: x.Text, Line: 1}, {Kind: api.TokEnd, Line: 1, At: l[i+1].At - x.At}}
		if f != (api.Fault{}) || !slices.Equal(alone, want) {
			t.Errorf("%.200q: at line %d, %d stands %.200v, %v, not %.200v", s, x.Line, x.At, alone, f, want)
		}
	}
}

// lexed holds Lex to what it must answer.
func lexed(t *testing.T, s string, want []api.Token, f api.Fault) {
	t.Helper()
	if got, fault := Lex(s); !slices.Equal(got, want) || fault != f {
		t.Errorf("Lex(%.200q): %.400v, %v, not %.400v, %v", s, got, fault, want, f)
	}
}

// reads holds Lex of s to the tokens that these tell: shown's form of each, with a blank between.
func reads(t *testing.T, s, want string) {
	t.Helper()
	l, f := Lex(s)
	if got := shown(l); got != want || f != (api.Fault{}) {
		t.Errorf("Lex(%.200q): %.400s, %v, not %.400s", s, got, f, want)
	}
}

// refuses holds Lex of s to that fault, and to no tokens.
func refuses(t *testing.T, s string, e api.Errno, line, at int) {
	t.Helper()
	lexed(t, s, nil, api.Fault{Err: e, Line: line, At: at})
}

// writes holds Write to what it must answer.
func writes(t *testing.T, l []api.Token, want string, e api.Errno) {
	t.Helper()
	if got, err := Write(l); got != want || err != e {
		t.Errorf("Write(%.300v): %.300q, %v, not %.300q, %v", l, got, err, want, e)
	}
}

// noWrite holds Write of each list to that error, and to nothing beside it.
func noWrite(t *testing.T, e api.Errno, lists ...[]api.Token) {
	t.Helper()
	for _, l := range lists {
		writes(t, l, "", e)
	}
}

// quotedAs holds Quote to what it must answer.
func quotedAs(t *testing.T, s, want string, e api.Errno) {
	t.Helper()
	if got, err := Quote(s); got != want || err != e {
		t.Errorf("Quote(%.200q): %.200q, %v, not %.200q, %v", s, got, err, want, e)
	}
}

// shown is each token as: its line, a colon, its place, and the word, the text in quotes, the sign, or a full stop for an end.
func shown(l []api.Token) string {
	var out []string
	for _, x := range l {
		form := "?"
		switch {
		case x.Kind == api.TokWord:
			form = x.Text
		case x.Kind == api.TokText:
			form = strconv.QuoteToASCII(x.Text)
		case x.Text != "":
		case x.Kind == api.TokComma:
			form = ","
		case x.Kind == api.TokNot:
			form = "!"
		case x.Kind == api.TokEnd:
			form = "."
		}
		out = append(out, fmt.Sprintf("%d:%d%s", x.Line, x.At, form))
	}
	return strings.Join(out, " ")
}

// nowhere is l without where its tokens stand.
func nowhere(l []api.Token) []api.Token {
	out := slices.Clone(l)
	for i := range out {
		out[i].Line, out[i].At = 0, 0
	}
	return out
}

func word(s string) api.Token { return api.Token{Kind: api.TokWord, Text: s} }

func text(s string) api.Token { return api.Token{Kind: api.TokText, Text: s} }

// The tokens that have no text.
var comma, not, end = api.Token{Kind: api.TokComma}, api.Token{Kind: api.TokNot}, api.Token{Kind: api.TokEnd}

func list(l ...api.Token) []api.Token { return l }

// long is a row of these, of so many bytes.
func long(s string, to int) string { return strings.Repeat(s, to/len(s)+1)[:to] }

// inside tells whether part is memory of s.
func inside(part, s string) bool {
	a, b := uintptr(unsafe.Pointer(unsafe.StringData(part))), uintptr(unsafe.Pointer(unsafe.StringData(s)))
	return part != "" && s != "" && a >= b && a < b+uintptr(len(s))
}

// texts calls f with every text of at most n of these.
func texts(n int, these []string, f func(s string)) {
	var grow func(s string, left int)
	grow = func(s string, left int) {
		f(s)
		if left == 0 {
			return
		}
		for _, one := range these {
			grow(s+one, left-1)
		}
	}
	grow("", n)
}

// picked is a text of n of these; the same seed picks the same.
func picked(seed uint64, n int, these []string) string {
	pick := rand.New(rand.NewPCG(seed, 15))
	var b strings.Builder
	for range n {
		b.WriteString(these[pick.IntN(len(these))])
	}
	return b.String()
}
