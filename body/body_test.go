package body

import (
	"math"
	"math/rand/v2"
	"strconv"
	"strings"
	"testing"
	"unsafe"

	"portcullis/api"
)

// abc is the example's body in chunks.
const abc = "3\r\nabc\r\n0\r\n\r\n"

// bits is some of which bodies in chunks are made, and what they are not.
var bits = []string{
	"0", "1", "2", "3", "5", "a", "A", "f", "F", "g", "00", "10", "00000001", "000000000", "123456789", "\r\n", "\r\n", "\r\n", "\r", "\n", "\r\r\n", "\n\r", ";", ";a=b", "; c", "a: b\r\n", ":", "a:\r\n", " ", "\t", "\x00", "\x1f", "\x7f", "\x80", "\xff", "abc", "abcdef", "0\r\n\r\n", "1\r\na\r\n", "2\r\n\r\n\r\n", "-1", "+1", "0x1", "G", "@", "`", "/", "\u0661",
}

// notes, ends and trailers are what is at those places, most of them as they must be.
var (
	notes    = []string{"", "", "", "", ";", ";a", ";a=b;c=\"d\"", "; \t~", ";\x80\xff\u00fc", ";;;", ";0\t", ";:", " ", ";\x00", ";\x7f", "\t;a", " ;a", ";a\r", ",a"}
	ends     = []string{"\r\n", "\r\n", "\r\n", "\r\n", "\r\n", "\r\n", "\r\n", "\r\n", "\r\n", "\r\n", "\r\n", "\r\n", "\n", "\r\r\n", "\rx", "\r \n", " \r\n"}
	trailers = []string{"a: b", "A:b", "x:", "Host: a", "a:b:c", "!#$: \xff\x80\t", "~:~", "a: b\tc", "a b: c", ": b", " a: b", "a", "a : b", "a: \x00", "a: b\x7f", "(: b", "a\u00fc: b"}
)

func TestP20_1New(t *testing.T) {
	for _, x := range []struct {
		kind uint8
		size int
		e    api.Errno
	}{
		{api.NoBody, 0, api.OK}, {api.Chunked, 0, api.OK}, {api.Length, 0, api.OK}, {api.Length, 1, api.OK}, {api.Length, 1000, api.OK}, {api.Length, api.MaxBody - 1, api.OK}, {api.Length, api.MaxBody, api.OK},
		{api.Length, api.MaxBody + 1, api.ErrLong}, {api.Length, 2 * api.MaxBody, api.ErrLong}, {api.Length, math.MaxInt, api.ErrLong},
		{api.Length, -1, api.ErrArg}, {api.Length, math.MinInt, api.ErrArg}, {api.Length, -api.MaxBody - 1, api.ErrArg},
		{api.NoBody, 1, api.ErrArg}, {api.NoBody, -1, api.ErrArg}, {api.NoBody, math.MinInt, api.ErrArg}, {api.Chunked, 1, api.ErrArg}, {api.Chunked, -1, api.ErrArg},
		{api.NoBody, api.MaxBody, api.ErrArg}, {api.NoBody, api.MaxBody + 1, api.ErrArg}, {api.Chunked, api.MaxBody + 1, api.ErrArg}, {api.Chunked, math.MaxInt, api.ErrArg},
	} {
		r, e := New(x.kind, x.size)
		if e != x.e || (r == nil) != (e != api.OK) {
			t.Errorf("New(%d, %d): %v, %v; want %v", x.kind, x.size, r, e, x.e)
		}
	}
}

func TestP20_1EachKind(t *testing.T) {
	for kind := range 256 {
		for _, size := range []int{0, 1, -1, api.MaxBody, api.MaxBody + 1} {
			want := api.ErrArg
			if kind == 1 && size == api.MaxBody+1 {
				want = api.ErrLong
			} else if kind == 1 && size >= 0 || kind <= 2 && size == 0 {
				want = api.OK
			}
			r, e := New(uint8(kind), size)
			if e != want || (r == nil) != (want != api.OK) {
				t.Fatalf("New(%d, %d): %v, %v; want %v", kind, size, r, e, want)
			}
		}
	}
}

func TestP20_2Examples(t *testing.T) {
	r := made(t, length(3))
	if used, data, done, e := r.Feed("ab"); used != 2 || data != "ab" || done || e != api.OK {
		t.Fatal(used, data, done, e)
	}
	if used, data, done, e := r.Feed("cde"); used != 1 || data != "c" || !done || e != api.OK || r.Total() != 3 {
		t.Fatal(used, data, done, e, r.Total())
	}
	reads(t, chunked, abc, "abc")
	refuses(t, "1g", "", api.ErrChunk)
	refuses(t, "123456789", "", api.ErrChunk)
	refuses(t, "1\r\nab", "a", api.ErrChunk)
	refuses(t, "1\r\na\n", "a", api.ErrChunk)
	refuses(t, "1\r\na\r\r", "a", api.ErrChunk)
}

func TestP20_2NoBody(t *testing.T) {
	for _, s := range []string{"", "x", abc, "\r\n", long("x", 5000)} {
		for _, b := range []body{{kind: api.NoBody}, length(0)} {
			become(t, b, s, 0, "", true, api.OK)
		}
	}
}

func TestP20_2Length(t *testing.T) {
	for _, s := range []string{"a", "abc", "\r\n", "\x00\xff\x80\r\n\n", abc, long("0123456789", 4099), "\u00fc\u20ac"} {
		reads(t, length(len(s)), s, s)
		for i := range min(len(s), 12) {
			reads(t, length(i), s[:i], s[:i])
			waits(t, length(len(s)), s[:i], s[:i])
			waits(t, length(len(s)), s[:len(s)-1-i], s[:len(s)-1-i])
		}
	}
	for i := range 256 {
		s := string([]byte{byte(i)})
		reads(t, length(1), s, s)
		reads(t, length(3), "a"+s+"b", "a"+s+"b")
	}
}

func TestP20_2LongestLength(t *testing.T) {
	s := long("0123456789abcde\n", api.MaxBody) + "x"
	r := made(t, length(api.MaxBody))
	if used, data, done, e := r.Feed(s); used != api.MaxBody || data != s[:api.MaxBody] || !done || e != api.OK || r.Total() != api.MaxBody {
		t.Fatal(used, len(data), done, e, r.Total())
	}
	r = made(t, length(api.MaxBody))
	for rest, n := s, 0; ; {
		n += 99_991
		used, data, done, e := r.Feed(rest[:min(99_991, len(rest))])
		if data != rest[:used] || e != api.OK || done != (n >= api.MaxBody) || r.Total() != min(n, api.MaxBody) {
			t.Fatal(used, len(data), done, e, n)
		}
		rest = rest[used:]
		if done {
			break
		}
	}
}

func TestP20_2Chunks(t *testing.T) {
	for s, data := range map[string]string{
		"0\r\n\r\n":           "",
		"1\r\na\r\n0\r\n\r\n": "a",
		"1\r\na\r\n2\r\nbc\r\n3\r\ndef\r\n0\r\n\r\n":  "abcdef",
		"2\r\n\r\n\r\n2\r\n\r\n\r\n0\r\n\r\n":         "\r\n\r\n",
		"5\r\n0\r\n\r\n\r\n0\r\n\r\n":                 "0\r\n\r\n",
		"a\r\n0123456789\r\n0\r\n\r\n":                "0123456789",
		"A\r\n0123456789\r\n0\r\n\r\n":                "0123456789",
		"0a\r\n0123456789\r\n0\r\n\r\n":               "0123456789",
		"0000000A\r\n0123456789\r\n0\r\n\r\n":         "0123456789",
		"00000001\r\na\r\n00000000\r\n\r\n":           "a",
		"1;\r\na\r\n0\r\n\r\n":                        "a",
		"1;q\r\na\r\n0;\r\n\r\n":                      "a",
		"1;q=\"1;2\"\r\na\r\n0;last\r\n\r\n":          "a",
		"1; \t!~\x80\xff\r\na\r\n0; \t!~\x80\r\n\r\n": "a",
		"1;;;1\r\na\r\n00;0;1:2\r\n\r\n":              "a",
		"1;123456789\r\na\r\n0\r\n\r\n":               "a",
		"00\r\n\r\n":                                  "",
		"0000000\r\n\r\n":                             "",
		"00000000\r\n\r\n":                            "",
		"0\r\na: b\r\n\r\n":                           "",
		"0\r\na:b\r\nA:\r\nc: \t d\r\n\r\n":           "",
		"3\r\nabc\r\n0;x\r\na: b\r\na: b\r\n\r\n":     "abc",
		"0\r\ncontent-length: 5\r\n\r\n":              "",
		"0\r\n0: 0\r\n~!:\xff\x80\t~ !\r\n\r\n":       "",
		"1\r\n\x00\r\n3\r\n\xff\x7f\n\r\n0\r\n\r\n":   "\x00\xff\x7f\n",
	} {
		reads(t, chunked, s, data)
		for i := range len(s) {
			c := wordsFeed(chunked, s[:i])
			waits(t, chunked, s[:i], c.dataOf(s[:i], 0))
		}
	}
}

func TestP20_2SizesOfAllDigits(t *testing.T) {
	for i := range 256 {
		s := string([]byte{byte(i)})
		value := strings.Index("0123456789abcdef", strings.ToLower(s))
		switch {
		case i < 128 && value > 0:
			data := long("xyz", value)
			reads(t, chunked, s+"\r\n"+data+"\r\n0\r\n\r\n", data)
			data = long("xyz", 16+value)
			reads(t, chunked, "1"+s+"\r\n"+data+"\r\n0\r\n\r\n", data)
			data = long("xyz", 16*value+1)
			reads(t, chunked, s+"1\r\n"+data+"\r\n0\r\n\r\n", data)
			refuses(t, "00000000"+s, "", api.ErrChunk)
			refuses(t, "12345678"+s, "", api.ErrChunk)
		case i == '0':
			waits(t, chunked, s, "")
			waits(t, chunked, "1"+s, "")
			refuses(t, "00000000"+s, "", api.ErrChunk)
			refuses(t, "12345678"+s, "", api.ErrChunk)
		default:
			refuses(t, s, "", api.ErrChunk)
			refuses(t, "1\r\na\r\n"+s, "a", api.ErrChunk)
			if s == ";" || s == "\r" {
				waits(t, chunked, "1"+s, "")
				waits(t, chunked, "12345678"+s, "")
			} else {
				refuses(t, "1"+s, "", api.ErrChunk)
				refuses(t, "0"+s, "", api.ErrChunk)
				refuses(t, "12345678"+s, "", api.ErrChunk)
			}
		}
	}
}

func TestP20_2Sizes(t *testing.T) {
	for _, size := range []int{1, 2, 9, 10, 15, 16, 17, 255, 256, 257, 0xabc, 0xABC, 4095, 4096, 4097, 65536} {
		data := long("0123456789\r\n", size)
		for _, digits := range []string{strconv.FormatInt(int64(size), 16), strings.ToUpper(strconv.FormatInt(int64(size), 16))} {
			for len(digits) <= 8 {
				s := digits + "\r\n" + data + "\r\n0\r\n\r\n"
				become(t, chunked, s+"x", len(s), data, true, api.OK)
				digits = "0" + digits
			}
		}
	}
}

func TestP20_2LineWithASize(t *testing.T) {
	for s, data := range map[string]string{
		"\r": "", "\n": "", " ": "", "\t": "", ";": "", "-": "", "+": "", "g": "", "x": "", "\x00": "", "\xff": "",
		"1\n": "", "1 ": "", "1\t": "", "1x": "", "0x": "", "1-": "", "1.": "", "1,": "", "1:": "", "1h": "", "1\x00": "", "1\xd9": "", "1\"": "",
		"1\r\r": "", "1\rx": "", "1\r;": "", "1\r1": "", "1\r ": "",
		"1;\n": "", "1;a\n": "", "1;a\r\r": "", "1;a\rb": "", "1;\r;": "", "1;\x00": "", "1;a\x1f": "", "1;a\x7f": "",
		"0\n": "", "0 ": "", "0\r\r": "", "0\rx": "",
		"1\r\na\r\n\r": "a", "1\r\na\r\n\n": "a", "1\r\na\r\n ": "a", "1\r\na\r\n;": "a", "1\r\na\r\n1 ": "a", "1\r\na\r\n123456789": "a",
		"000000000": "", "000000001": "", "ffffffff0": "",
	} {
		refuses(t, s, data, api.ErrChunk)
	}
}

func TestP20_2BytesBehindASemicolon(t *testing.T) {
	for i := range 256 {
		s := string([]byte{byte(i)})
		for _, front := range []string{"1;", "1;a", "00000001; "} {
			switch {
			case i == 9 || i >= 32 && i <= 126 || i >= 128:
				reads(t, chunked, front+s+"\r\na\r\n0;"+s+"\r\n\r\n", "a")
				reads(t, chunked, front+s+"b"+s+s+"\r\na\r\n0;c"+s+" \r\n\r\n", "a")
			case i == 13:
				waits(t, chunked, front+s, "")
			default:
				refuses(t, front+s, "", api.ErrChunk)
				refuses(t, abc[:8]+front+s, "abc", api.ErrChunk)
			}
		}
	}
}

func TestP20_2LongLinesWithASize(t *testing.T) {
	note := func(front string, to int) string { return front + long("a b\t", to-len(front)) }
	for _, front := range []string{"1;", "00000001;"} {
		reads(t, chunked, note(front, api.MaxLine)+"\r\na\r\n0\r\n\r\n", "a")
		reads(t, chunked, note(front, api.MaxLine-1)+"\r\na\r\n"+note("0;", api.MaxLine)+"\r\n\r\n", "a")
		waits(t, chunked, note(front, api.MaxLine+1), "")
		refuses(t, note(front, api.MaxLine+2), "", api.ErrMany)
		refuses(t, note(front, api.MaxLine+1)+"\r", "", api.ErrMany)
		refuses(t, note(front, api.MaxLine+1)+"\x00", "", api.ErrMany)  // ErrChunk, too
		refuses(t, note(front, api.MaxLine)+"\r\r", "", api.ErrMany)    // ErrChunk, too
		refuses(t, note(front, api.MaxLine)+"\rx", "", api.ErrMany)     // ErrChunk, too
		refuses(t, note(front, api.MaxLine-1)+"\r\r", "", api.ErrChunk) // as long as may be
		refuses(t, note(front, api.MaxLine)+"\x00", "", api.ErrChunk)   // as long as may be
		refuses(t, note(front, api.MaxLine+1)+"\n", "", api.ErrChunk)   // a byte 10 is never too many
		refuses(t, note(front, api.MaxLine)+"\n", "", api.ErrChunk)     // nor here
		refuses(t, "1\r\na\r\n"+note(front, api.MaxLine+2), "a", api.ErrMany)
		refuses(t, "1\r\na\r\n"+note(front, api.MaxLine)+"\r\nbc", "ab", api.ErrChunk)
	}
	refuses(t, note("ffffffff;", api.MaxLine)+"\r\n", "", api.ErrLong)
	refuses(t, note("ffffffff;", api.MaxLine+1)+"\n", "", api.ErrChunk)
}

func TestP20_2SumOfSizes(t *testing.T) {
	for _, s := range []string{"1000001\r\n", "01000001\r\n", "1000001;a\r\n", "ffffffff\r\n", "FFFFFFFF;\r\n", "80000000\r\n", "7fffffff\r\n", "2000000\r\n"} {
		refuses(t, s, "", api.ErrLong)
		waits(t, chunked, s[:len(s)-1], "")
		refuses(t, "1\r\na\r\n"+s, "a", api.ErrLong)
	}
	for _, s := range []string{"1000000\r\n", "01000000\r\n", "ffffff;a\r\n"} {
		waits(t, chunked, s, "")
		waits(t, chunked, s+"abc", "abc")
	}
	waits(t, chunked, "1\r\na\r\nffffff\r\n", "a")
	refuses(t, "1\r\na\r\n1000000\r\n", "a", api.ErrLong)
	refuses(t, "2\r\nab\r\nffffff\r\n", "ab", api.ErrLong)
	waits(t, chunked, "2\r\nab\r\nfffffe\r\n", "ab")
	refuses(t, "1\r\na\r\n1\r\nb\r\nffffff\r\n", "ab", api.ErrLong)
	refuses(t, "1\r\na\r\n1000000 ", "a", api.ErrChunk) // ahead of the line's end
	refuses(t, "1000001\n", "", api.ErrChunk)
}

// A body of MaxBody bytes, and of one more, in chunks.
func TestP20_2LongestChunks(t *testing.T) {
	data := long("0123456789abcde\n", api.MaxBody)
	for _, first := range []int{api.MaxBody, 1, 12345} {
		s := data[:first]
		text := strconv.FormatInt(int64(first), 16) + "\r\n" + s + "\r\n"
		if first < api.MaxBody {
			s = data[first:]
			text += strconv.FormatInt(int64(len(s)), 16) + "\r\n" + s + "\r\n"
		}
		r := made(t, chunked)
		if used, got, done, e := r.Feed(text + "00;q\r\n\r\nx"); used != len(text)+8 || got != data || !done || e != api.OK || r.Total() != api.MaxBody {
			t.Fatal(used, len(got), done, e, r.Total())
		}
		r = made(t, chunked)
		if used, got, done, e := r.Feed(text); used != len(text) || got != data || done || e != api.OK || r.Total() != api.MaxBody {
			t.Fatal(used, len(got), done, e, r.Total())
		}
		if used, got, done, e := r.Feed("1\r\nx"); used != 3 || got != "" || done || e != api.ErrLong || r.Total() != api.MaxBody {
			t.Fatal(used, got, done, e, r.Total())
		}
	}
}

func TestP20_2BehindAChunk(t *testing.T) {
	for i := range 256 {
		s := string([]byte{byte(i)})
		if i != 13 {
			refuses(t, "1\r\na"+s, "a", api.ErrChunk)
			refuses(t, "1\r\na\r\n3\r\nbcd"+s, "abcd", api.ErrChunk)
		} else {
			waits(t, chunked, "1\r\na"+s, "a")
		}
		if i != 10 {
			refuses(t, "1\r\na\r"+s, "a", api.ErrChunk)
			refuses(t, "3;q\r\n\r\n\r\r"+s, "\r\n\r", api.ErrChunk)
		} else {
			waits(t, chunked, "1\r\na\r"+s, "a")
		}
	}
	refuses(t, "2\r\nabc", "ab", api.ErrChunk)
	refuses(t, "2\r\na\r\n", "a\r", api.ErrChunk)
	refuses(t, "1\r\na0", "a", api.ErrChunk)
}

func TestP20_2LinesBehindTheLastSize(t *testing.T) {
	for _, s := range []string{
		"a b\r\n", "a\r\n", "a : b\r\n", ": b\r\n", ":\r\n", " a: b\r\n", "\ta: b\r\n", " \r\n", "\t\r\n", "(: b\r\n", "a\u00fc: b\r\n", "\xff: b\r\n", "a,b: c\r\n", "a: \x00\r\n", "a: b\x7f\r\n", "a: \x1f\r\n", "a:\x01b\r\n",
		"\n", "a: b\n", "a\n", " \n", "\r\r\n", "\rx\r\n", "a: b\r\r\n", "a: \rb\r\n", "\ra: b\r\n", "a\r: b\r\n", "a: b\r \r\n", "a: b\rc\n", "\r \n", "a: b\r \n", "\r\x00\n",
	} {
		for _, front := range []string{"0\r\n", "000;q\r\n", "1\r\na\r\n0\r\n", "0\r\na: b\r\n", "0\r\na:\r\nc: d\r\n"} {
			data := ""
			if front[0] == '1' {
				data = "a"
			}
			refuses(t, front+s, data, api.ErrChunk)
			waits(t, chunked, front+s[:len(s)-1], data)
		}
	}
	refuses(t, "0\r\na: b\r\n c\r\n", "", api.ErrChunk)
	refuses(t, "0\r\nGET / HTTP/1.1\r\n", "", api.ErrChunk)
}

func TestP20_2BytesOfFields(t *testing.T) {
	const names = "abcdefghijklmnopqrstuvwxyzABCDEFGHIJKLMNOPQRSTUVWXYZ0123456789!#$%&'*+-.^_`|~"
	for i := range 256 {
		s := string([]byte{byte(i)})
		if i == 10 || i == 13 {
			continue // they end lines
		}
		for _, line := range []string{"a:" + s, "a: b" + s + "c", "a: b " + s} {
			if i == 9 || i >= 32 && i != 127 {
				reads(t, chunked, "0\r\n"+line+"\r\n\r\n", "")
			} else {
				refuses(t, "0\r\n"+line+"\r\n", "", api.ErrChunk)
			}
		}
		for _, line := range []string{s + ":", "a" + s + ": b", s + "a: b"} {
			if strings.Contains(names, s) || i == ':' && line[0] == 'a' {
				reads(t, chunked, "0\r\n"+line+"\r\n\r\n", "")
			} else {
				refuses(t, "0\r\n"+line+"\r\n", "", api.ErrChunk)
			}
		}
	}
}

func TestP20_2LongFields(t *testing.T) {
	line := func(to int) string { return "a:" + long("b c\t", to-2) }
	for _, front := range []string{"0\r\n", "0\r\nx: y\r\n", "1\r\na\r\n000;q\r\n"} {
		data := ""
		if front[0] == '1' {
			data = "a"
		}
		reads(t, chunked, front+line(api.MaxLine)+"\r\n\r\n", data)
		reads(t, chunked, front+line(api.MaxLine)+"\r\n"+line(api.MaxLine-1)+"\r\n\r\n", data)
		waits(t, chunked, front+line(api.MaxLine+1), data)
		waits(t, chunked, front+line(api.MaxLine)+"\r", data)
		refuses(t, front+line(api.MaxLine+1)+"\n", data, api.ErrChunk)
		refuses(t, front+line(api.MaxLine)+"\n", data, api.ErrChunk)
		refuses(t, front+line(api.MaxLine+1)+"\r", data, api.ErrMany)
		refuses(t, front+line(api.MaxLine+2), data, api.ErrMany)
		refuses(t, front+line(api.MaxLine)+"\r\r", data, api.ErrMany)
		refuses(t, front+line(api.MaxLine-1)+"\r\r\n", data, api.ErrChunk)
		refuses(t, front+long("\r", api.MaxLine+2), data, api.ErrMany)
		refuses(t, front+long("\r", api.MaxLine+1)+"\n", data, api.ErrChunk)
		refuses(t, front+long("x", api.MaxLine)+"\r\n", data, api.ErrChunk) // no field
		refuses(t, front+long("\x00", api.MaxLine+2), data, api.ErrMany)    // no field's byte either
	}
}

func TestP20_2ManyFields(t *testing.T) {
	full := "0\r\n" + strings.Repeat("a: b\r\n", api.MaxFields)
	reads(t, chunked, full+"\r\n", "")
	waits(t, chunked, full, "")
	waits(t, chunked, full+"a: b\r", "")
	refuses(t, full+"a: b\r\n", "", api.ErrMany)
	refuses(t, full+"c:\r\n", "", api.ErrMany)
	refuses(t, full+"a b\r\n", "", api.ErrMany) // no field, too
	refuses(t, full+" \r\n", "", api.ErrMany)   // nor here
	refuses(t, full+"a: b\n", "", api.ErrChunk) // ahead of it: the line's end
	refuses(t, full+"\n", "", api.ErrChunk)     // the empty line's, too
	refuses(t, full+"\r\r\n", "", api.ErrChunk)
	refuses(t, full+"\ra: b\r\n", "", api.ErrChunk)
	refuses(t, full+"a: b\r\r\n", "", api.ErrChunk)                          // or another byte 13
	refuses(t, full[:len(full)-len("a: b\r\n")]+"a b\r\n", "", api.ErrChunk) // of one less
	refuses(t, full+long("x", api.MaxLine+2), "", api.ErrMany)
	most := "0\r\n"
	for range api.MaxFields {
		most += "a:" + long("b", api.MaxLine-2) + "\r\n"
	}
	become(t, chunked, most+"\r\nx", len(most)+2, "", true, api.OK)
	become(t, chunked, most+"a:\r\nx", len(most)+4, "", false, api.ErrMany)
}

func TestP20_2Behind(t *testing.T) {
	for _, x := range []struct {
		b    body
		s    string
		used int
		e    api.Errno
	}{
		{body{kind: api.NoBody}, "", 0, api.ErrState}, {length(0), "abc", 0, api.ErrState}, {length(2), "abc", 2, api.ErrState}, {chunked, abc + "x", len(abc), api.ErrState},
		{chunked, "1g", 2, api.ErrChunk}, {chunked, "1000001\r\nabc", 9, api.ErrLong}, {chunked, "1;" + long("a", 5000), api.MaxLine + 2, api.ErrMany}, {chunked, "2\r\nabc\r\n", 6, api.ErrChunk},
	} {
		r := made(t, x.b)
		used, _, done, e := r.Feed(x.s)
		if used != x.used || done != (x.e == api.ErrState) || !done && e != x.e || done && e != api.OK {
			t.Fatalf("%s: %d, %v, %v", short(x.s), used, done, e)
		}
		total := r.Total()
		for _, s := range []string{"", "x", "\r\n", abc, ""} {
			if used, data, done, e := r.Feed(s); used != 0 || data != "" || done || e != x.e || r.Total() != total {
				t.Fatalf("behind %s: %d, %q, %v, %v", short(x.s), used, data, done, e)
			}
		}
	}
}

func TestP20_2NoReader(t *testing.T) {
	for _, r := range []*Reader{nil, {}} {
		for _, s := range []string{"", "a", abc} {
			if used, data, done, e := r.Feed(s); used != 0 || data != "" || done || e != api.ErrNil {
				t.Fatalf("Feed(%q): %d, %q, %v, %v", s, used, data, done, e)
			}
			if r.Total() != 0 {
				t.Fatal("Total of none")
			}
		}
	}
}

func TestP20_2ByWords(t *testing.T) {
	pick := picker(1)
	for range 6000 {
		byWords(t, chunked, anyChunks(pick))
	}
	for range 3000 {
		var s string
		for range pick.IntN(12) {
			s += one(pick, bits)
		}
		byWords(t, chunked, s)
		byWords(t, length(pick.IntN(20)), s)
		byWords(t, body{kind: api.NoBody}, s)
	}
}

// anyChunks is some body in chunks, or what is near to one.
func anyChunks(pick *rand.Rand) string {
	var s string
	for range pick.IntN(5) {
		size := one(pick, []int{1, 1, 2, 3, 10, 17, pick.IntN(300) + 1})
		s += anySize(pick, size)
		if pick.IntN(20) == 0 {
			size += one(pick, []int{-1, 1})
		}
		s += long(one(pick, []string{"abc", "\r\n", "0\r\n", "\x00\xff"}), size) + one(pick, ends[:9+pick.IntN(len(ends)-8)])
	}
	s += anySize(pick, 0)
	few := 8
	for range pick.IntN(4) {
		if pick.IntN(6) == 0 {
			few = len(trailers)
		}
		s += one(pick, trailers[:few]) + one(pick, ends[:9+pick.IntN(len(ends)-8)])
	}
	return s + one(pick, ends[:13]) + one(pick, []string{"", "x", abc})
}

// anySize is a line with a size, or what is near to one.
func anySize(pick *rand.Rand, size int) string {
	s := strconv.FormatInt(int64(size), 16)
	if pick.IntN(3) == 0 {
		s = strings.Repeat("0", one(pick, []int{1, 2, 5, 6, 7, 7, 8})) + s
	}
	if pick.IntN(2) == 0 {
		s = strings.ToUpper(s)
	}
	return s + one(pick, notes[:6+pick.IntN(len(notes)-5)]) + one(pick, ends[:9+pick.IntN(len(ends)-8)])
}

// What goes wrong at each place: a byte of another text in its place.
func TestP20_2EachByteAnother(t *testing.T) {
	for _, s := range []string{abc + "x", "0a;q=\"1\"\r\n0123456789\r\n1\r\nx\r\n00\r\na: b\r\nC:\td\r\n\r\n"} {
		for i := range len(s) {
			for c := range 256 {
				other := s[:i] + string([]byte{byte(c)}) + s[i+1:]
				want := wordsFeed(chunked, other)
				comes(t, chunked, []string{other}, want)
				comes(t, chunked, []string{other[:i], other[i:]}, want)
				comes(t, chunked, []string{other[:i+1], other[i+1:]}, want)
			}
			byWords(t, chunked, s[:i]+s[i+1:])
			byWords(t, chunked, s[:i]+s[i:i+1]+s[i:])
		}
	}
}

// What is answered has none of the memory that was handed in, which may be written anew by then.
func TestP20_2ArgumentsAreNotKept(t *testing.T) {
	text := "03;q\r\nabc\r\na\r\n0123456789\r\n0\r\nabc: def\r\nghi:\r\n\r\n"
	for _, b := range []body{chunked, length(len(text))} {
		for size := 1; size <= len(text); size++ {
			r := made(t, b)
			buffer := make([]byte, size)
			var data []string
			last := false
			for rest := text; rest != ""; {
				n := copy(buffer, rest)
				rest = rest[n:]
				_, d, done, e := r.Feed(unsafe.String(&buffer[0], n))
				data = append(data, d)
				clear(buffer)
				if e != api.OK {
					t.Fatal(e)
				}
				last = done
			}
			want := text
			if b == chunked {
				want = "abc0123456789"
			}
			if got := strings.Join(data, ""); got != want || !last {
				t.Fatalf("pieces of %d bytes: %q", size, got)
			}
		}
	}
	for _, s := range []string{"a", "abc", "0123456789abcdef"} {
		buffer := []byte(s)
		got := Chunk(unsafe.String(&buffer[0], len(buffer)))
		clear(buffer)
		if got != wordsChunk(s) {
			t.Fatalf("%q", got)
		}
	}
}

func TestP20_2ArgumentsStay(t *testing.T) {
	pick := picker(2)
	for range 300 {
		s := anyChunks(pick)
		buffer := []byte(s)
		handed := unsafe.String(&buffer[0], len(buffer))
		made(t, chunked).Feed(handed)
		made(t, length(len(s))).Feed(handed)
		Chunk(handed)
		if string(buffer) != s {
			t.Fatalf("%q became %q", s, buffer)
		}
	}
}

// What was answered once stays as it was, whatever the reader takes behind.
func TestP20_2AnswersStay(t *testing.T) {
	r := made(t, chunked)
	var answers, copies []string
	for i := range 50 {
		_, data, _, e := r.Feed("4\r\n" + long(strconv.Itoa(i), 4) + "\r\n")
		if e != api.OK {
			t.Fatal(e)
		}
		answers = append(answers, data)
		copies = append(copies, string([]byte(data)))
	}
	r.Feed("0\r\n\r\n")
	for i := range answers {
		if answers[i] != copies[i] || answers[i] != long(strconv.Itoa(i), 4) {
			t.Fatalf("%q became %q", copies[i], answers[i])
		}
	}
}

func TestP20_3Total(t *testing.T) {
	r := made(t, chunked)
	for _, x := range []struct {
		s     string
		total int
	}{
		{"", 0}, {"3", 0}, {";abc", 0}, {"\r\n", 0}, {"a", 1}, {"bc", 3}, {"\r\n", 3}, {"1\r\nd\r\n1", 4}, {"0\r\n0123", 8}, {"", 8}, {"456789abcdef\r\n0\r\n", 20}, {"a: b\r\n", 20}, {"\r\nmore", 20}, {"more", 20},
	} {
		r.Feed(x.s)
		if r.Total() != x.total {
			t.Fatalf("Total behind %q: %d; want %d", x.s, r.Total(), x.total)
		}
	}
	r = made(t, chunked)
	r.Feed("2\r\nabx")
	if r.Total() != 2 {
		t.Fatal("Total beside an error:", r.Total())
	}
	r = made(t, length(5))
	for i, want := range []int{2, 4, 5, 5} {
		r.Feed("xy")
		if r.Total() != want {
			t.Fatalf("Total behind %d: %d", i, r.Total())
		}
	}
	for _, b := range []body{{kind: api.NoBody}, length(0), length(1), chunked} {
		if r := made(t, b); r.Total() != 0 {
			t.Fatal("Total of a new one:", r.Total())
		}
	}
}

func TestP20_3Chunk(t *testing.T) {
	for s, want := range map[string]string{
		"":                    "",
		"a":                   "1\r\na\r\n",
		"abc":                 "3\r\nabc\r\n",
		"0123456789":          "a\r\n0123456789\r\n",
		"0123456789abcde":     "f\r\n0123456789abcde\r\n",
		"0123456789abcdef":    "10\r\n0123456789abcdef\r\n",
		"\r\n":                "2\r\n\r\n\r\n",
		"\x00\xff":            "2\r\n\x00\xff\r\n",
		"\u00fc":              "2\r\n\u00fc\r\n",
		long("x", 0xabc):      "abc\r\n" + long("x", 0xabc) + "\r\n",
		long("x", 4096):       "1000\r\n" + long("x", 4096) + "\r\n",
		long("xyz", 0xfedcba): "fedcba\r\n" + long("xyz", 0xfedcba) + "\r\n",
	} {
		if got := Chunk(s); got != want || got != wordsChunk(s) {
			t.Errorf("Chunk(%s): %s", short(s), short(got))
		}
	}
	for i := range 600 {
		s := long("ab\n", i)
		if got := Chunk(s); got != wordsChunk(s) {
			t.Fatalf("Chunk of %d bytes: %s", i, short(got))
		}
	}
	if got := Last(); got != "0\r\n\r\n" {
		t.Errorf("Last: %q", got)
	}
}

func TestP20_4Chunks(t *testing.T) {
	pick := picker(3)
	for range 500 {
		var s, data string
		for range pick.IntN(8) {
			d := long(one(pick, []string{"abc", "\r\n", "0\r\n\r\n", "\x00\xff"}), one(pick, []int{0, 1, 2, 9, 10, 15, 16, 17, 255, 256, 1000}))
			data += d
			s += Chunk(d)
		}
		waits(t, chunked, s, data)
		s += Last()
		become(t, chunked, s, len(s), data, true, api.OK)
		become(t, chunked, s+"x", len(s), data, true, api.OK)
	}
}

// The longest body, in chunks of some length.
func TestP20_4LongestChunks(t *testing.T) {
	data := long("0123456789abcde\n", api.MaxBody)
	for _, size := range []int{1 << 20, 99_991, api.MaxBody} {
		var b strings.Builder
		for i := 0; i < len(data); i += size {
			b.WriteString(Chunk(data[i:min(i+size, len(data))]))
		}
		b.WriteString(Last())
		r := made(t, chunked)
		if used, got, done, e := r.Feed(b.String()); used != b.Len() || got != data || !done || e != api.OK || r.Total() != len(data) {
			t.Fatal(used, len(got), done, e)
		}
	}
}

func TestP20_4AllCutsOfTwo(t *testing.T) {
	for _, s := range []string{
		abc + "more", "3;q=\"1\"\r\nabc\r\n00\r\na: b\r\n\r\n" + abc, "A\r\n0123456789\r\n0\r\n\r\n\r\n", "1\r\nab\r\n", "1000001\r\nabc", "0\r\na b\r\n\r\n", "123456789", "0\r\na: b\n", "2\r\nab", "ffffff;\r\nabc",
	} {
		for _, b := range []body{chunked, length(0), length(5), length(len(s)), length(len(s) + 1), {kind: api.NoBody}} {
			want := wordsFeed(b, s)
			for i := range len(s) + 1 {
				for j := i; j <= len(s); j++ {
					comes(t, b, []string{s[:i], s[i:j], s[j:]}, want)
				}
			}
		}
	}
}

func TestP20_4AnyPieces(t *testing.T) {
	pick := picker(4)
	for range 3000 {
		s := anyChunks(pick)
		for _, b := range []body{chunked, length(pick.IntN(len(s) + 5))} {
			want := wordsFeed(b, s)
			for range 4 {
				comes(t, b, cut(pick, s), want)
			}
		}
	}
}

func TestP20_4LongOnes(t *testing.T) {
	pick := picker(5)
	for _, s := range []string{
		"1;" + long("q ", api.MaxLine-2) + "\r\na\r\n0\r\n\r\n", "1;" + long("q ", api.MaxLine-1) + "\r\na\r\n", "0\r\n" + long("a: b\r\n", 64*6) + "\r\nx", "0\r\n" + long("a: b\r\n", 65*6) + "\r\nx", "0\r\na: " + long("b", 5000), "0\r\na:" + long("b", api.MaxLine-2) + "\r\n\r\nx",
		Chunk(long("abc\r\n", 70_000)) + Chunk(long("def", 3)) + Last() + "x", "fffff\r\n" + long("x", 30_000),
	} {
		want := wordsFeed(chunked, s)
		for range 30 {
			comes(t, chunked, cut(pick, s), want)
		}
	}
}

// Readers know nothing of each other.
func TestP20_4Readers(t *testing.T) {
	texts := []string{abc, "1;q\r\nx\r\n0\r\na: b\r\n\r\n", "1g", "0\r\n\r\n", "a\r\n0123456789\r\n0\r\n\r\n", abc + abc}
	var readers []*Reader
	data := make([]string, len(texts))
	for range texts {
		readers = append(readers, made(t, chunked))
	}
	for i := range 40 {
		for k, s := range texts {
			if i < len(s) {
				_, d, _, _ := readers[k].Feed(s[i : i+1])
				data[k] += d
			}
		}
	}
	for k, s := range texts {
		want := wordsFeed(chunked, s)
		if got := want.dataOf(s[:len(want.at)], 0); data[k] != got || readers[k].Total() != len(got) {
			t.Fatalf("%q: %q, %d", s, data[k], readers[k].Total())
		}
	}
}
