package lex

import (
	"strconv"
	"strings"
	"unicode/utf8"

	"portcullis/api"
)

// Quote answers s as a text in quotes.
func Quote(s string) (string, api.Errno) {
	switch {
	case !utf8.ValidString(s):
		return "", api.ErrUtf
	case len(s) > api.MaxText:
		return "", api.ErrLong
	}
	var out strings.Builder
	out.WriteByte('"')
	for _, r := range s {
		switch {
		case r == '"', r == '\\':
			out.WriteByte('\\')
			out.WriteRune(r)
		case isControl(r):
			out.WriteString(numberFront + strconv.FormatInt(int64(r), 16) + numberBehind)
		default:
			out.WriteRune(r)
		}
	}
	out.WriteByte('"')
	return out.String(), api.OK
}

// Write answers the lines of these tokens.
func Write(l []api.Token) (string, api.Errno) {
	if !areLines(l) {
		return "", api.ErrArg
	}
	var out strings.Builder
	ahead := api.TokEnd
	for _, t := range l {
		if isBlankBetween(ahead, t.Kind) {
			out.WriteByte(' ')
		}
		s, e := written(t)
		if e != api.OK || out.Len()+len(s) > api.MaxText {
			return "", api.ErrLong
		}
		out.WriteString(s)
		ahead = t.Kind
	}
	return out.String(), api.OK
}

// areLines tells whether these are tokens, line by line. Ahead of the first one a line has ended, as it were: so no line is without a token.
func areLines(l []api.Token) bool {
	ahead := api.TokEnd
	for _, t := range l {
		if !isToken(t) || t.Kind == api.TokEnd && ahead == api.TokEnd {
			return false
		}
		ahead = t.Kind
	}
	return ahead == api.TokEnd
}

func isToken(t api.Token) bool {
	switch t.Kind {
	case api.TokWord:
		return isWord(t.Text)
	case api.TokText:
		return utf8.ValidString(t.Text)
	case api.TokComma, api.TokNot, api.TokEnd:
		return t.Text == ""
	}
	return false
}

// isWord tells whether s is read as one word. How long it is, is no matter here: what is too long is told of all that is written.
func isWord(s string) bool {
	return s != "" && wordAt(s) == s && utf8.ValidString(s) && !strings.ContainsFunc(s, isControl)
}

func isBlankBetween(ahead, kind uint8) bool {
	return ahead != api.TokEnd && ahead != api.TokNot && kind != api.TokEnd && kind != api.TokComma
}

// written answers one token as it stands in a line; an end is what ends it.
func written(t api.Token) (string, api.Errno) {
	switch t.Kind {
	case api.TokText:
		return Quote(t.Text)
	case api.TokComma:
		return ",", api.OK
	case api.TokNot:
		return "!", api.OK
	case api.TokEnd:
		return newline, api.OK
	}
	return t.Text, api.OK
}
