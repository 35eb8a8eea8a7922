package body

import (
	"fmt"
	"math/rand/v2"
	"regexp"
	"sort"
	"strings"
	"testing"

	"portcullis/api"
)

// What the chapter's words say, done word by word and slowly, so that the tests hold the program to the text.

// The forms of a line with a size, of what such a line begins with, and of a field without its end, each byte as the code point of its number.
var (
	sizeForm  = regexp.MustCompile(`^([0-9A-Fa-f]{1,8})(;[\x{9}\x{20}-\x{7e}\x{80}-\x{ff}]*)?\x{d}\x{a}$`)
	frontForm = regexp.MustCompile(`^([0-9A-Fa-f]{0,8}|[0-9A-Fa-f]{1,8}(;[\x{9}\x{20}-\x{7e}\x{80}-\x{ff}]*)?\x{d}?|[0-9A-Fa-f]{1,8}(;[\x{9}\x{20}-\x{7e}\x{80}-\x{ff}]*)?\x{d}\x{a})$`)
	fieldForm = regexp.MustCompile(`^[A-Za-z0-9!#$%&'*+.^_` + "`" + `|~-]+:[\x{9}\x{20}-\x{7e}\x{80}-\x{ff}]*$`)
)

// body is what a reader is made of.
type body struct {
	kind uint8
	size int
}

var chunked = body{kind: api.Chunked}

func length(size int) body { return body{kind: api.Length, size: size} }

// came is what comes of feeding a new reader: at has, for each byte that is taken, whether it is one of the body.
type came struct {
	at   []bool
	done bool
	e    api.Errno
}

func wordsFeed(b body, s string) came {
	switch b.kind {
	case api.NoBody:
		return came{done: true}
	case api.Length:
		var at []bool
		for len(at) < b.size && len(at) < len(s) {
			at = append(at, true)
		}
		return came{at: at, done: len(at) == b.size}
	}
	return wordsChunks(s)
}

// wordsChunks goes over a body in chunks by what stands where: a line with a size, a chunk's bytes, the two behind them, lines behind the last chunk's size.
func wordsChunks(s string) (c came) {
	sum := 0
	for {
		line, size, e := wordsSizeLine(s[len(c.at):], sum)
		c.at = append(c.at, make([]bool, line)...)
		if e != api.OK || size < 0 {
			c.e = e
			return c
		}
		if size == 0 {
			return wordsFields(c, s)
		}
		sum += size
		for range size {
			if len(c.at) == len(s) {
				return c
			}
			c.at = append(c.at, true)
		}
		for _, want := range []byte{13, 10} {
			if len(c.at) == len(s) {
				return c
			}
			c.at = append(c.at, false)
			if s[len(c.at)-1] != want {
				c.e = api.ErrChunk
				return c
			}
		}
	}
}

// wordsSizeLine answers how many bytes of a line with a size are taken, and the size: -1 if it is not at its end. What such a line begins with begins so itself, so that the first byte that is wrong is found by halving.
func wordsSizeLine(s string, sum int) (used, size int, e api.Errno) {
	line, _, ends := strings.Cut(s, "\n")
	if ends {
		line += "\n"
	}
	many, bad := len(line), sort.Search(len(line), func(i int) bool { return !frontForm.MatchString(wide(line[:i+1])) })
	if len(line) > 4096+1 && line[4096+1] != 10 {
		many = 4096 + 1
	}
	switch {
	case many < len(line) && many <= bad:
		return many + 1, -1, api.ErrMany
	case bad < len(line):
		return bad + 1, -1, api.ErrChunk
	case !ends:
		return len(line), -1, api.OK
	}
	for _, d := range strings.ToUpper(sizeForm.FindStringSubmatch(wide(line))[1]) {
		size = size*16 + strings.IndexRune("0123456789ABCDEF", d)
	}
	if sum+size > 16777216 {
		return len(line), -1, api.ErrLong
	}
	return len(line), size, api.OK
}

// wordsFields goes over the lines behind the last chunk's size.
func wordsFields(c came, s string) came {
	var line []byte
	fields := 0
	for len(c.at) < len(s) {
		b := s[len(c.at)]
		c.at = append(c.at, false)
		line = append(line, b)
		if b != 10 {
			if len(line) > 4096+1 {
				c.e = api.ErrMany
				return c
			}
			continue
		}
		text := string(line)
		line = nil
		if !strings.HasSuffix(text, "\r\n") || strings.Count(text, "\r") != 1 {
			c.e = api.ErrChunk
			return c
		}
		text = strings.TrimSuffix(text, "\r\n")
		switch {
		case text == "":
			c.done = true
			return c
		case len(text) > 4096:
			panic("a line that was too long ahead of its end")
		case fields == 64:
			c.e = api.ErrMany
			return c
		case !fieldForm.MatchString(wide(text)):
			c.e = api.ErrChunk
			return c
		}
		fields++
	}
	return c
}

// dataOf answers those bytes of s, from there on, which are the body's.
func (c came) dataOf(s string, from int) string {
	var l []byte
	for i := range len(s) {
		if c.at[from+i] {
			l = append(l, s[i])
		}
	}
	return string(l)
}

func wordsChunk(s string) string {
	if s == "" {
		return ""
	}
	return fmt.Sprintf("%x\r\n%s\r\n", len(s), s)
}

// wide is each byte of s as the code point of its number.
func wide(s string) string {
	var l []rune
	for _, b := range []byte(s) {
		l = append(l, rune(b))
	}
	return string(l)
}

// made is a new reader.
func made(t *testing.T, b body) *Reader {
	t.Helper()
	r, e := New(b.kind, b.size)
	if r == nil || e != api.OK {
		t.Fatalf("New(%d, %d): %v, %v", b.kind, b.size, r, e)
	}
	return r
}

// byWords holds a reader that is fed with s in one piece, byte by byte, with empty pieces among them, and cut in some places, to the chapter's words.
func byWords(t *testing.T, b body, s string) {
	t.Helper()
	inPieces(t, b, s, wordsFeed(b, s))
}

func inPieces(t *testing.T, b body, s string, want came) {
	t.Helper()
	comes(t, b, []string{s}, want)
	comes(t, b, []string{"", s, "", ""}, want)
	var bytes, among []string
	for i := range len(s) {
		bytes = append(bytes, s[i:i+1])
		among = append(among, "", s[i:i+1])
	}
	comes(t, b, bytes, want)
	comes(t, b, append(among, "", ""), want)
	for i := 1; i < len(s); i += 1 + len(s)/40 {
		comes(t, b, []string{s[:i], s[i:]}, want)
	}
}

// comes holds a new reader that is fed with these pieces, as they are, to what must come of all of them, piece by piece, and behind them.
func comes(t *testing.T, b body, pieces []string, want came) {
	t.Helper()
	r := made(t, b)
	sum, total, ended := 0, 0, false
	for _, s := range pieces {
		n := min(len(s), len(want.at)-sum)
		wantData, wantDone, wantE := want.dataOf(s[:n], sum), false, api.OK
		switch {
		case ended && want.done:
			wantE = api.ErrState
		case ended:
			wantE = want.e
		case sum+n == len(want.at):
			wantDone, wantE = want.done, want.e
			ended = want.done || want.e != api.OK
		}
		used, data, done, e := r.Feed(s)
		if used != n || data != wantData || done != wantDone || e != wantE {
			t.Fatalf("Feed of %s behind %d bytes of %s: %d, %s, %v, %v; want %d, %s, %v, %v", short(s), sum, short(strings.Join(pieces, "")), used, short(data), done, e, n, short(wantData), wantDone, wantE)
		}
		sum += n
		total += len(wantData)
		if r.Total() != total {
			t.Fatalf("Total behind %d bytes of %s: %d; want %d", sum, short(strings.Join(pieces, "")), r.Total(), total)
		}
	}
	if sum != len(want.at) {
		t.Fatalf("%s: %d bytes were taken; want %d", short(strings.Join(pieces, "")), sum, len(want.at))
	}
}

// reads tells that s is a body of just data, whatever is behind it, in whatever pieces.
func reads(t *testing.T, b body, s, data string) {
	t.Helper()
	for _, behind := range []string{"", "x", "\r\n", "0\r\n\r\n", "GET / HTTP/1.1\r\n\r\n"} {
		become(t, b, s+behind, len(s), data, true, api.OK)
	}
}

// refuses tells that s, of whose bytes these are the body's, by its last byte is what brings e, whatever is behind it, in whatever pieces.
func refuses(t *testing.T, s, data string, e api.Errno) {
	t.Helper()
	for _, behind := range []string{"", "x", "\r\n\r\n", "0\r\n\r\n"} {
		become(t, chunked, s+behind, len(s), data, false, e)
	}
}

// waits tells that s, of whose bytes these are the body's, is neither a body nor what is none.
func waits(t *testing.T, b body, s, data string) {
	t.Helper()
	become(t, b, s, len(s), data, false, api.OK)
}

// become holds the program to the chapter's words, and those to what is wanted.
func become(t *testing.T, b body, s string, used int, data string, done bool, e api.Errno) {
	t.Helper()
	c := wordsFeed(b, s)
	if len(c.at) != used || c.dataOf(s[:used], 0) != data || c.done != done || c.e != e {
		t.Fatalf("%s: by the chapter's words %d, %s, %v, %v; not %d, %s, %v, %v", short(s), len(c.at), short(c.dataOf(s[:len(c.at)], 0)), c.done, c.e, used, short(data), done, e)
	}
	inPieces(t, b, s, c)
}

func short(s string) string {
	if len(s) > 200 {
		return fmt.Sprintf("%q..%q (%d)", s[:100], s[len(s)-100:], len(s))
	}
	return fmt.Sprintf("%q", s)
}

// long is s again and again, to so many bytes.
func long(s string, to int) string { return strings.Repeat(s, to/len(s)+1)[:to] }

func picker(seed uint64) *rand.Rand { return rand.New(rand.NewPCG(seed, 20)) }

func one[T any](pick *rand.Rand, these []T) T { return these[pick.IntN(len(these))] }

// cut is s in pieces of any lengths, some of them empty.
func cut(pick *rand.Rand, s string) []string {
	var l []string
	for s != "" {
		n := min(len(s), one(pick, []int{0, 1, 1, 2, 3, 5, 8, 20, 100, 1000}))
		l = append(l, s[:n])
		s = s[n:]
	}
	return append(l, "")
}
