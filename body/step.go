package body

import (
	"strings"

	"portcullis/api"
	"portcullis/head"
)

// maxDigits is how many digits a chunk's size may have.
const maxDigits = 8

// step takes a byte, and answers what takes the one behind it; nil, if the body is at its end, or wrong.
type step func(c byte) step

// fail ends the reading of a body.
func (r *Reader) fail(e api.Errno) step {
	r.wrong = e
	return nil
}

// some answers what takes so many bytes of the body, and then what is behind them.
func (r *Reader) some(left int, behind func() step) step {
	if left == 0 {
		return behind()
	}
	var take step
	take = func(c byte) step {
		r.data = append(r.data, c)
		left--
		if left == 0 {
			return behind()
		}
		return take
	}
	return take
}

// must answers what takes one byte, which is no other than that, and then what is behind it.
func (r *Reader) must(want byte, behind func() step) step {
	return func(c byte) step {
		if c != want {
			return r.fail(api.ErrChunk)
		}
		return behind()
	}
}

// line answers what takes a line by what its bytes mean, as long as it is not too long.
func (r *Reader) line(means step) step {
	length := 0
	var take step
	take = func(c byte) step {
		length++
		if c != newline && length > api.MaxLine+1 {
			return r.fail(api.ErrMany)
		}
		means = means(c)
		if c == newline || means == nil {
			return means
		}
		return take
	}
	return take
}

// sizeLine answers what takes a line with a size, and then what that size asks for.
func (r *Reader) sizeLine() step {
	size, digits := 0, 0
	var inSize, inNote step
	atEnd := r.must(newline, func() step { return r.sized(size) })
	inSize = func(c byte) step {
		value, is := digit(c)
		switch {
		case is && digits < maxDigits:
			size, digits = size<<4|value, digits+1
			return inSize
		case c == ';' && digits > 0:
			return inNote
		case c == back && digits > 0:
			return atEnd
		}
		return r.fail(api.ErrChunk)
	}
	inNote = func(c byte) step {
		switch {
		case isText(c):
			return inNote
		case c == back:
			return atEnd
		}
		return r.fail(api.ErrChunk)
	}
	return r.line(inSize)
}

// sized answers what takes that which stands behind a line with that size.
func (r *Reader) sized(size int) step {
	r.sizes += size
	switch {
	case r.sizes > api.MaxBody:
		return r.fail(api.ErrLong)
	case size == 0:
		return r.fieldLine(0)
	}
	return r.some(size, r.chunkEnd)
}

// chunkEnd answers what takes that which ends a chunk, and then the next one.
func (r *Reader) chunkEnd() step {
	return r.must(back, func() step { return r.must(newline, r.sizeLine) })
}

// fieldLine answers what takes a line behind the last chunk's size, and behind so many fields.
func (r *Reader) fieldLine(fields int) step {
	var line []byte
	var take step
	take = func(c byte) step {
		line = append(line, c)
		if c == newline {
			return r.field(string(line), fields)
		}
		return take
	}
	return r.line(take)
}

// field looks at such a line. One that ends as it must is never too long at its end: its byte 13 would have been the one too many.
func (r *Reader) field(line string, fields int) step {
	line, is := strings.CutSuffix(line, ending)
	switch {
	case !is || strings.IndexByte(line, back) >= 0:
		return r.fail(api.ErrChunk)
	case line == "":
		return nil
	case fields == api.MaxFields:
		return r.fail(api.ErrMany)
	case !isField(line):
		return r.fail(api.ErrChunk)
	}
	return r.fieldLine(fields + 1)
}

// isField tells whether a line, without its end, is a field.
func isField(line string) bool {
	name, value, is := strings.Cut(line, ":")
	if !is || !head.Token(name) {
		return false
	}
	for i := range len(value) {
		if !isText(value[i]) {
			return false
		}
	}
	return true
}

// isText tells which bytes may stand in a field's value, and behind a size and its semicolon.
func isText(c byte) bool { return c == '\t' || c >= ' ' && c != '\x7f' }

// digit answers the value of a digit of sixteen. What falls through is made what is there: a small letter a capital one, a capital one what stands behind the 9.
func digit(c byte) (value int, is bool) {
	switch {
	case 'a' <= c && c <= 'f':
		c -= 'a' - 'A'
		fallthrough
	case 'A' <= c && c <= 'F':
		c -= 'A' - ('9' + 1)
		fallthrough
	case '0' <= c && c <= '9':
		return int(c - '0'), true
	}
	return 0, false
}
