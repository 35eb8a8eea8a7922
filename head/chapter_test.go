package head

import (
	"fmt"
	"math/rand/v2"
	"regexp"
	"slices"
	"strings"
	"testing"

	"portcullis/api"
)

// What the chapter's words say, done word by word and slowly, so that the tests hold the program to the text.

const tokenWords = "[A-Za-z0-9!#$%&'*+.^_`|~-]+"

// The forms of a token and of lines without their ends, each byte as the code point of its number.
var (
	tokenForm   = regexp.MustCompile(`^` + tokenWords + `$`)
	firstForm   = regexp.MustCompile(`^(` + tokenWords + `) ([\x{21}-\x{7e}]+) HTTP/1\.([01])$`)
	versionForm = regexp.MustCompile(`^` + tokenWords + ` [\x{21}-\x{7e}]+ HTTP/[0-9]\.[0-9]$`)
	fieldForm   = regexp.MustCompile(`^(` + tokenWords + `):([\x{9}\x{20}-\x{7e}\x{80}-\x{ff}]*)$`)
	blanksForm  = regexp.MustCompile(`^[ \t]+|[ \t]+$`)
)

// came is what comes of feeding a new reader.
type came struct {
	head api.Head
	used int
	done bool
	e    api.Errno
}

func wordsFeed(s string) (c came) {
	var line []byte
	var h api.Head
	ahead, number := 0, 0 // lines that are empty and ahead of the first one; lines that are at their end
	for i, b := range []byte(s) {
		if i+1 == 16384+1 {
			return came{used: i + 1, e: api.ErrMany}
		}
		line = append(line, b)
		if b != 10 {
			if len(line) > 4096+1 && number == ahead {
				return came{used: i + 1, e: api.ErrTarget}
			} else if len(line) > 4096+1 {
				return came{used: i + 1, e: api.ErrMany}
			}
			continue
		}
		if !wordsEnds(line) {
			return came{used: i + 1, e: api.ErrLine}
		}
		text := wide(string(line[:len(line)-2]))
		line = nil
		if text == "" && number == 0 {
			ahead = 1
		} else if number == ahead {
			if len(text) > 4096 {
				panic("a line that was too long ahead of its end")
			}
			if h.Method, h.Target, h.Minor = wordsFirst(text); h.Method == "" {
				return came{used: i + 1, e: wordsNoFirst(text)}
			}
		} else if text == "" {
			return came{head: h, used: i + 1, done: true}
		} else if len(h.Fields) == 64 {
			return came{used: i + 1, e: api.ErrMany}
		} else if m := fieldForm.FindStringSubmatch(text); m != nil {
			h.Fields = append(h.Fields, api.Field{Name: wordsSmall(m[1]), Value: narrow(blanksForm.ReplaceAllString(m[2], ""))})
		} else {
			return came{used: i + 1, e: api.ErrField}
		}
		number++
	}
	return came{used: len(s)}
}

// wordsEnds tells whether a line ends with 13 and 10, and has no other 13.
func wordsEnds(line []byte) bool {
	n := len(line)
	return n >= 2 && line[n-2] == 13 && line[n-1] == 10 && !slices.Contains(line[:n-2], 13)
}

func wordsFirst(text string) (method, target string, minor uint8) {
	m := firstForm.FindStringSubmatch(text)
	if m == nil {
		return "", "", 0
	}
	return m[1], m[2], m[3][0] - '0'
}

func wordsNoFirst(text string) api.Errno {
	if versionForm.MatchString(text) {
		return api.ErrVersion
	}
	return api.ErrStart
}

func wordsSmall(s string) string {
	b := []byte(s)
	for i, c := range b {
		if c >= 65 && c <= 90 {
			b[i] = c + 32
		}
	}
	return string(b)
}

func wordsParse(s string) (api.Head, int, api.Errno) {
	c := wordsFeed(s)
	if c.e == api.OK && !c.done {
		return api.Head{}, 0, api.ErrShort
	}
	return c.head, c.used, c.e
}

func wordsGet(h api.Head, name string) (l []string) {
	for i := range h.Fields {
		if h.Fields[i].Name == name {
			l = append(l, h.Fields[i].Value)
		}
	}
	return l
}

func wordsToken(s string) bool { return tokenForm.MatchString(wide(s)) }

// wide is each byte of s as the code point of its number, narrow the way back.
func wide(s string) string {
	var l []rune
	for _, b := range []byte(s) {
		l = append(l, rune(b))
	}
	return string(l)
}

func narrow(s string) string {
	var l []byte
	for _, r := range s {
		l = append(l, byte(r))
	}
	return string(l)
}

// byWords holds Parse of s, and a reader that is fed with it in one piece, byte by byte and cut in some places, to the chapter's words.
func byWords(t *testing.T, s string) {
	t.Helper()
	want := wordsFeed(s)
	inPieces(t, s, want)
	h, used, e := wordsParse(s)
	if gotH, gotUsed, gotE := Parse(s); !same(gotH, h) || gotUsed != used || gotE != e {
		t.Fatalf("Parse of %s: %+v, %d, %v; want %+v, %d, %v", short(s), gotH, gotUsed, gotE, h, used, e)
	}
}

// inPieces holds a reader to what must come of s: in one piece, byte by byte, with empty pieces among them, and cut in two.
func inPieces(t *testing.T, s string, want came) {
	t.Helper()
	comes(t, []string{s}, want)
	comes(t, []string{"", s, "", ""}, want)
	var bytes, among []string
	for i := range len(s) {
		bytes = append(bytes, s[i:i+1])
		among = append(among, "", s[i:i+1])
	}
	comes(t, bytes, want)
	comes(t, append(among, ""), want)
	for i := 1; i < len(s); i += 1 + len(s)/40 {
		comes(t, []string{s[:i], s[i:]}, want)
	}
}

// comes holds a new reader that is fed with these pieces, as they are, to what must come of all of them, piece by piece, and behind them.
func comes(t *testing.T, pieces []string, want came) {
	t.Helper()
	r := New()
	sum := 0
	for _, s := range pieces {
		left := want.used - sum
		n := min(len(s), left)
		wantDone, wantE := false, api.OK
		ends := want.done || want.e != api.OK
		switch {
		case ends && left == 0 && want.done:
			wantE = api.ErrState
		case ends && left == 0:
			wantE = want.e
		case ends && left <= len(s):
			wantDone, wantE = want.done, want.e
		}
		used, done, e := r.Feed(s)
		if used != n || done != wantDone || e != wantE {
			t.Fatalf("Feed behind %d bytes of %s: %d, %v, %v; want %d, %v, %v", sum, short(strings.Join(pieces, "")), used, done, e, n, wantDone, wantE)
		}
		sum += n
		wantHead := api.Head{}
		if want.done && sum == want.used {
			wantHead = want.head
		}
		if h, n := r.Head(), r.Bytes(); !same(h, wantHead) || n != sum {
			t.Fatalf("behind %d bytes of %s: %+v, %d bytes; want %+v", sum, short(strings.Join(pieces, "")), h, n, wantHead)
		}
	}
	if sum != want.used {
		t.Fatalf("%s: %d bytes were taken; want %d", short(strings.Join(pieces, "")), sum, want.used)
	}
}

// reads tells that s is a head and what is behind it, in whatever pieces.
func reads(t *testing.T, s, behind string, h api.Head) {
	t.Helper()
	become(t, s+behind, came{head: h, used: len(s), done: true})
}

// refuses tells that s, by its last byte, is what brings e, whatever is behind it, in whatever pieces.
func refuses(t *testing.T, s string, e api.Errno) {
	t.Helper()
	for _, behind := range []string{"", "x", "\r\n\r\n", plain} {
		become(t, s+behind, came{used: len(s), e: e})
	}
}

// waits tells that s is neither a head nor what is none.
func waits(t *testing.T, s string) {
	t.Helper()
	become(t, s, came{used: len(s)})
}

// become holds the program to the chapter's words, and those to what is wanted.
func become(t *testing.T, s string, want came) {
	t.Helper()
	if c := wordsFeed(s); !same(c.head, want.head) || c.used != want.used || c.done != want.done || c.e != want.e {
		t.Fatalf("%s: by the chapter's words %+v, not %+v", short(s), c, want)
	}
	byWords(t, s)
}

// same tells whether two heads are; lists without elements are.
func same(h, other api.Head) bool {
	return h.Method == other.Method && h.Target == other.Target && h.Minor == other.Minor && slices.Equal(h.Fields, other.Fields)
}

func told(these any) string { return fmt.Sprintf("%+q", these) }

func short(s string) string {
	if len(s) > 200 {
		return fmt.Sprintf("%q..%q (%d)", s[:100], s[len(s)-100:], len(s))
	}
	return fmt.Sprintf("%q", s)
}

// plain is a head.
const plain = "GET / HTTP/1.1\r\n\r\n"

// headOf is a head of GET / HTTP/1.1 of fields, name by name, each with its value behind it.
func headOf(these ...string) api.Head {
	h := api.Head{Method: "GET", Target: "/", Minor: 1}
	for i := 0; i < len(these); i += 2 {
		h.Fields = append(h.Fields, api.Field{Name: these[i], Value: these[i+1]})
	}
	return h
}

// with is the text of a head of GET / HTTP/1.1 with these lines of fields.
func with(lines ...string) string {
	return "GET / HTTP/1.1\r\n" + ended(lines...) + "\r\n"
}

// ended is these lines, with their ends.
func ended(lines ...string) string {
	var b strings.Builder
	for _, s := range lines {
		b.WriteString(s + "\r\n")
	}
	return b.String()
}

// long is s again and again, to so many bytes.
func long(s string, to int) string { return strings.Repeat(s, to/len(s)+1)[:to] }

func picker(seed uint64) *rand.Rand { return rand.New(rand.NewPCG(seed, 19)) }

func one[T any](pick *rand.Rand, these []T) T { return these[pick.IntN(len(these))] }

// cut is s in pieces of any lengths, some of them empty.
func cut(pick *rand.Rand, s string) []string {
	var l []string
	for s != "" {
		n := min(len(s), one(pick, []int{0, 1, 1, 2, 3, 5, 8, 20, 100, 1000}))
		l = append(l, s[:n])
		s = s[n:]
	}
	return append(l, "")
}
