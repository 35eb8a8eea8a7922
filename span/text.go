package span

import (
	"strconv"

	"portcullis/api"
)

// maxDigits is how many digits a number has at most.
const maxDigits = 6

// Text answers the text of l's normal form.
func Text(l []api.Span) (string, api.Errno) {
	norm, e := Norm(l)
	if e != api.OK {
		return "", e
	}
	var out []byte
	for i, s := range norm {
		if i > 0 {
			out = append(out, ',')
		}
		out = strconv.AppendInt(out, int64(s.Lo), 16)
		if s.Hi != s.Lo {
			out = append(out, '-')
			out = strconv.AppendInt(out, int64(s.Hi), 16)
		}
	}
	return string(out), api.OK
}

// Parse answers the spans whose text s is, or the first place that is wrong.
func Parse(s string) (l []api.Span, at int, e api.Errno) {
	if s == "" {
		return nil, 0, api.OK
	}
	least := rune(0)
	for {
		one, end, ok := readSpan(s, at, least)
		if !ok {
			return nil, end, api.ErrForm
		}
		l = append(l, one)
		if end == len(s) {
			return l, 0, api.OK
		}
		if s[end] != ',' || len(l) == api.MaxSpans {
			return nil, end, api.ErrForm
		}
		// One more than Hi would be next to it, and not in normal form.
		at, least = end+1, one.Hi+2
	}
}

// readSpan reads a span that begins at at, with no less than least. It tells
// where it ends, or, if it is none, what place is wrong.
func readSpan(s string, at int, least rune) (one api.Span, end int, ok bool) {
	lo, end, ok := readNumber(s, at, least)
	if !ok || end == len(s) || s[end] != '-' {
		return api.Span{Lo: lo, Hi: lo}, end, ok
	}
	hi, end, ok := readNumber(s, end+1, lo+1)
	return api.Span{Lo: lo, Hi: hi}, end, ok
}

// readNumber reads a number that begins at at, with no less than least. It
// tells where it ends; if it is none, or may not stand there, its beginning.
func readNumber(s string, at int, least rune) (n rune, end int, ok bool) {
	for end = at; end < len(s) && end < at+maxDigits; end++ {
		d, is := digit(s[end])
		if !is || end > at && n == 0 {
			// Behind a nought nothing of a number can stand.
			break
		}
		n = n*16 + d
	}
	if end == at || n < least || n > api.MaxRune {
		return 0, at, false
	}
	return n, end, true
}

func digit(c byte) (d rune, is bool) {
	switch {
	case c >= '0' && c <= '9':
		return rune(c - '0'), true
	case c >= 'a' && c <= 'f':
		return rune(c-'a') + 10, true
	}
	return 0, false
}
