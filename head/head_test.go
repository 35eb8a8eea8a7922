package head

import (
	"math/rand/v2"
	"slices"
	"strconv"
	"strings"
	"testing"
	"unsafe"

	"portcullis/api"
)

// good is the first example's head.
const good = "GET http://a/ HTTP/1.1\r\nHost:  a \r\n\r\n"

var goodHead = api.Head{Method: "GET", Target: "http://a/", Minor: 1, Fields: []api.Field{{Name: "host", Value: "a"}}}

// tokenBytes is each byte that a token may have.
const tokenBytes = "abcdefghijklmnopqrstuvwxyzABCDEFGHIJKLMNOPQRSTUVWXYZ0123456789!#$%&'*+-.^_`|~"

// bits is some of which heads are made, and what they are not.
var bits = []string{
	"GET", "POST", "get", "M-SEARCH", "a", "B", "host", "Host", ":", "::", ": ", " :", " ", "  ", "\t", "/", "http://a/", "*", "a:80", "HTTP/1.1", "HTTP/1.0", "HTTP/2.0", "HTTP/1.2", "HTTP/1.10", "HTTP/11", "http/1.1", "HTTP/", "1.1", "\r", "\n", "\r\n", "\r\n\r\n", "\n\n", "\r\r\n", "\x00", "\x1f", "\x7f", "\x80", "\xff", "(", "@", "~", "!", ",", ";", "\"", "\u00FC", "\u212A", "GET / HTTP/1.1\r\n", "a: b\r\n",
}

// firstLines, fieldLines and ends are what is at those places, most of them as they must be.
var (
	firstLines = []string{
		"GET / HTTP/1.1", "GET / HTTP/1.1", "GET / HTTP/1.1", "CONNECT a:80 HTTP/1.0", "get http://a/b?c HTTP/1.1", "!#~ ~!@(){}\"\\ HTTP/1.0",
		"GET / HTTP/1.2", "GET / HTTP/2.0", "GET  / HTTP/1.1", "GET / HTTP/1.1 ", " GET / HTTP/1.1", "GET\t/ HTTP/1.1", "GET /", "GET / HTTP/2", "G(T / HTTP/1.1", "GET /\x7f HTTP/1.1", "",
	}
	fieldLines = []string{
		"a:b", "a: b", "A:b ", "Host: a", "host:b", "HOST:\t\tc \t", "x:", "x: ", "a:b:c", "a: b\tc  d", "a::", "!#$: \xff\x80", "~:~", "accept: a, b", "a: \u00fc",
		"a : b", ": b", " a: b", "\ta: b", "a", "a\u00fc: b", "a: \x00", "a: b\x7f", "(: b", "a b: c",
	}
	ends = []string{"\r\n", "\r\n", "\r\n", "\r\n", "\r\n", "\r\n", "\r\n", "\r\n", "\r\n", "\r\n", "\r\n", "\n", "\r\r\n", "\r \r\n", " \r\n"}
)

func TestP19_1Examples(t *testing.T) {
	reads(t, good, "", goodHead)
	reads(t, good, "more", goodHead)
	reads(t, "\r\n"+good, "", goodHead)
	refuses(t, "\r\n\r\n", api.ErrStart)
	refuses(t, "GET  / HTTP/1.1\r\n", api.ErrStart)
	refuses(t, "GET / HTTP/2.0\r\n", api.ErrVersion)
	refuses(t, "GET / HTTP/1.1 x\r\n", api.ErrStart)
	refuses(t, "GET / HTTP/1.1\r\na b: c\r\n", api.ErrField)
	refuses(t, "GET / HTTP/1.1\r\na : c\r\n", api.ErrField)
	refuses(t, "GET / HTTP/1.1\r\n: c\r\n", api.ErrField)
	refuses(t, "GET / HTTP/1.1\r\na: b\r\n c\r\n", api.ErrField)
	refuses(t, "GET / HTTP/1.1\r\n\ta: b\r\n", api.ErrField)
	refuses(t, "GET / HTTP/1.1\n", api.ErrLine)
	refuses(t, "GET / HTTP/1.1\r\na: b\n", api.ErrLine)
	refuses(t, "GET / HTTP/1.1\r\n\n", api.ErrLine)
}

func TestP19_1ExamplesOfTheWhole(t *testing.T) {
	for target, text := range map[string]string{
		"http://EXAMPLE.com./":            "GET http://EXAMPLE.com./ HTTP/1.1",
		"http://www.%65xample.com:8080/":  "GET http://www.%65xample.com:8080/ HTTP/1.1",
		"http://0x7f.1/":                  "GET http://0x7f.1/ HTTP/1.1",
		"http://a/?b=c#d\\e[f]{g}|^`\"<>": "GET http://a/?b=c#d\\e[f]{g}|^`\"<> HTTP/1.1",
	} {
		reads(t, ended(text, ""), "", api.Head{Method: "GET", Target: target, Minor: 1})
	}
	reads(t, "CONNECT xn--pypal-4ve.com:443 HTTP/1.1\r\n\r\n", "\x16\x03\x01", api.Head{Method: "CONNECT", Target: "xn--pypal-4ve.com:443", Minor: 1})
	reads(t, with("Content-Length: 3", "Transfer-Encoding: chunked"), "3\r\nabc\r\n0\r\n\r\n", headOf("content-length", "3", "transfer-encoding", "chunked"))
}

func TestP19_1Ordinary(t *testing.T) {
	reads(t, plain, "", headOf())
	reads(t, plain, plain, headOf())
	reads(t, "\r\n"+plain, "\r\n", headOf())
	reads(t, plain, "\n", headOf())
	reads(t, with("a: b"), "x", headOf("a", "b"))
	reads(t, with("a:b", "c:d", "a:e", "A:f", "a:b"), "a:g\r\n", headOf("a", "b", "c", "d", "a", "e", "a", "f", "a", "b"))
	reads(t, with("X-Aa-ZZ: Bb"), "", headOf("x-aa-zz", "Bb"))
	reads(t, with("ABCDEFGHIJKLMNOPQRSTUVWXYZ:ABCDEFGHIJKLMNOPQRSTUVWXYZ"), "", headOf("abcdefghijklmnopqrstuvwxyz", "ABCDEFGHIJKLMNOPQRSTUVWXYZ"))
	reads(t, "GET / HTTP/1.0\r\n\r\n", "", api.Head{Method: "GET", Target: "/"})
	reads(t, "GET / HTTP/1.0\r\na: b\r\n\r\n", "", api.Head{Method: "GET", Target: "/", Fields: []api.Field{{Name: "a", Value: "b"}}})
	reads(t, "get / HTTP/1.1\r\n\r\n", "", api.Head{Method: "get", Target: "/", Minor: 1})
	reads(t, "OpTiOnS * HTTP/1.1\r\n\r\n", "", api.Head{Method: "OpTiOnS", Target: "*", Minor: 1})
	reads(t, "a HTTP/1.1 HTTP/1.1\r\n\r\n", "", api.Head{Method: "a", Target: "HTTP/1.1", Minor: 1})
}

func TestP19_1Values(t *testing.T) {
	for text, want := range map[string]string{
		"":                "",
		" ":               "",
		"\t":              "",
		" \t \t\t ":       "",
		"b":               "b",
		" b":              "b",
		"\tb":             "b",
		"b ":              "b",
		"b\t":             "b",
		" \t b \t ":       "b",
		"b c":             "b c",
		" b \t c ":        "b \t c",
		":":               ":",
		" : ":             ":",
		" b: c :":         "b: c :",
		"\"b\" , c;d=e":   "\"b\" , c;d=e",
		"\u00fc":          "\u00fc",
		" \u00a0b\u3000 ": "\u00a0b\u3000", // these are no blanks
		" \u0085 ":        "\u0085",
		"\x80 \xff":       "\x80 \xff",
		"\xe2\x82":        "\xe2\x82",
		"HTTP/1.1":        "HTTP/1.1",
	} {
		reads(t, with("a:"+text), "", headOf("a", want))
		reads(t, with("a:"+text, "b:"+text, "c: "+text), "", headOf("a", want, "b", want, "c", want))
	}
}

func TestP19_1BytesOfValues(t *testing.T) {
	for i := range 256 {
		s := string([]byte{byte(i)})
		for _, x := range []struct{ text, want string }{{"a:" + s, s}, {"a: b" + s + "c ", "b" + s + "c"}, {"a:b" + s, "b" + s}, {"a:" + s + "b", s + "b"}} {
			switch {
			case i == 10:
				refuses(t, "GET / HTTP/1.1\r\n"+x.text[:strings.Index(x.text, "\n")+1], api.ErrLine)
			case i == 13:
				refuses(t, "GET / HTTP/1.1\r\n"+x.text+"\r\n", api.ErrLine)
			case i == 9 || i == 32:
				reads(t, with(x.text), "", headOf("a", strings.Trim(x.want, " \t")))
			case i < 32 || i == 127:
				refuses(t, "GET / HTTP/1.1\r\n"+x.text+"\r\n", api.ErrField)
			default:
				reads(t, with(x.text), "", headOf("a", x.want))
			}
		}
	}
}

func TestP19_1BytesOfNames(t *testing.T) {
	for i := range 256 {
		s := string([]byte{byte(i)})
		for _, name := range []string{s, s + "x", "x" + s, "x" + s + "y"} {
			text := "GET / HTTP/1.1\r\n" + name + ": b\r\n"
			switch {
			case strings.Contains(tokenBytes, s):
				reads(t, text+"\r\n", "", headOf(wordsSmall(name), "b"))
			case s == "\n":
				refuses(t, text[:strings.Index(text, "\n")+1]+name[:strings.Index(name, "\n")+1], api.ErrLine)
			case s == "\r":
				refuses(t, text, api.ErrLine)
			case s == ":" && name[0] != ':': // the first colon ends the name
				reads(t, text+"\r\n", "", headOf("x", strings.TrimPrefix(name, "x:")+": b"))
			default:
				refuses(t, text, api.ErrField)
			}
		}
	}
	reads(t, with(tokenBytes+":"), "", headOf(wordsSmall(tokenBytes), ""))
}

func TestP19_1BytesOfMethods(t *testing.T) {
	for i := range 256 {
		s := string([]byte{byte(i)})
		for _, method := range []string{s, s + "x", "x" + s, "x" + s + "y"} {
			text := method + " / HTTP/1.1\r\n"
			switch {
			case strings.Contains(tokenBytes, s):
				reads(t, text+"\r\n", "", api.Head{Method: method, Target: "/", Minor: 1})
			case s == "\n":
				refuses(t, text[:strings.Index(text, "\n")+1], api.ErrLine)
			case s == "\r":
				refuses(t, text, api.ErrLine)
			default:
				refuses(t, text, api.ErrStart)
			}
		}
	}
	reads(t, tokenBytes+" / HTTP/1.1\r\n\r\n", "", api.Head{Method: tokenBytes, Target: "/", Minor: 1})
}

func TestP19_1BytesOfTargets(t *testing.T) {
	for i := range 256 {
		s := string([]byte{byte(i)})
		for _, target := range []string{s, s + "x", "x" + s, "x" + s + "y"} {
			text := "GET " + target + " HTTP/1.1\r\n"
			switch {
			case i >= 33 && i <= 126:
				reads(t, text+"\r\n", "", api.Head{Method: "GET", Target: target, Minor: 1})
			case s == "\n":
				refuses(t, text[:strings.Index(text, "\n")+1], api.ErrLine)
			case s == "\r":
				refuses(t, text, api.ErrLine)
			default:
				refuses(t, text, api.ErrStart)
			}
		}
	}
}

func TestP19_1Versions(t *testing.T) {
	for major := range 10 {
		for minor := range 10 {
			text := "GET / HTTP/" + strconv.Itoa(major) + "." + strconv.Itoa(minor) + "\r\n"
			if major == 1 && minor < 2 {
				reads(t, text+"\r\n", "", api.Head{Method: "GET", Target: "/", Minor: uint8(minor)})
			} else {
				refuses(t, text, api.ErrVersion)
				refuses(t, "\r\n"+text, api.ErrVersion)
			}
		}
	}
	for _, version := range []string{
		"", "H", "HTTP", "HTTP/", "HTTP/1", "HTTP/2", "HTTP/1.", "HTTP/.1", "HTTP/1.1.", "HTTP/1.10", "HTTP/01.1", "HTTP/1.01", "HTTP/11.1", "HTTP/10.0", "HTTP/1,1", "HTTP/1:1", "HTTP/1/1", "HTTP/111", "HTTP/a.1", "HTTP/1.a", "HTTP/1.:", "HTTP/1./", "HTTP//.1", "HTTP/:.1", "HTTP/-1.1", "HTTP/+1.1", "HTTP/2.x", "HTTP/x.2",
		"http/1.1", "Http/1.1", "HTTp/2.0", "HTTP1.1", "HTTP 1.1", "HTTP\\1.1", "XHTTP/1.1", "HTTPS/1.1", "SHTTP/2.0", "HTTP/HTTP/1.1", "HTTP/1.1HTTP/1.1", " HTTP/1.1", "HTTP/1.1 ", " HTTP/2.0", "HTTP/2.0 ", "HTTP/1.1\t", "HTTP/\t1.1", "HTTP/1.1\x00", "HTTP/2.0x", "HTTP/\uff11.1", "1.1", "/1.1",
	} {
		refuses(t, "GET / "+version+"\r\n", api.ErrStart)
	}
}

// Another version is told of what would be a first line otherwise, alone.
func TestP19_1VersionsOfNoFirstLine(t *testing.T) {
	for _, version := range []string{"HTTP/2.0", "HTTP/1.2", "HTTP/0.9", "HTTP/1.1", "HTTP/1.0"} {
		for _, front := range []string{"", " ", "  ", "GET ", "GET  ", " / ", "G(T / ", "G\u00fcT / ", "GET /\x7f ", "GET /\x80 ", "GET /\t ", "GET / / ", "GET /  ", "GET  / ", " GET / ", "GET\t/ ", "GET /\t", "GET:/ ", "GET/ "} {
			refuses(t, front+version+"\r\n", api.ErrStart)
			refuses(t, "\r\n"+front+version+"\r\n", api.ErrStart)
		}
	}
}

func TestP19_1EmptyLinesAhead(t *testing.T) {
	waits(t, "")
	waits(t, "\r")
	waits(t, "\r\n")
	waits(t, "\r\n\r")
	refuses(t, "\r\n\r\n", api.ErrStart)
	refuses(t, "\n", api.ErrLine)
	refuses(t, "\r\n\n", api.ErrLine)
	refuses(t, "\r\r\n", api.ErrLine)
	refuses(t, "\r\n\r\r\n", api.ErrLine)
	refuses(t, " \r\n", api.ErrStart)
	refuses(t, "\t\r\n", api.ErrStart)
	refuses(t, "\r\n \r\n", api.ErrStart)
	reads(t, "\r\n"+with("a: b"), plain, headOf("a", "b"))
}

func TestP19_1EndsOfLines(t *testing.T) {
	text := "\r\nGET /ab HTTP/1.1\r\nc: d e\r\nf:\r\n\r\n"
	reads(t, text, "", api.Head{Method: "GET", Target: "/ab", Minor: 1, Fields: []api.Field{{Name: "c", Value: "d e"}, {Name: "f"}}})
	for i := range len(text) {
		if text[i] == '\r' { // a byte 10 alone
			refuses(t, text[:i]+"\n", api.ErrLine)
			refuses(t, text[:i]+"\r\r\n", api.ErrLine)
			refuses(t, text[:i]+"\r \r\n", api.ErrLine)
			waits(t, text[:i]+"\r\r")
			continue
		}
		if i > 0 && text[i-1] == '\r' {
			continue
		}
		refuses(t, text[:i]+"\n", api.ErrLine)
		end := i + strings.Index(text[i:], "\n") + 1
		refuses(t, text[:i]+"\r"+text[i:end], api.ErrLine) // a byte 13 elsewhere
		waits(t, text[:i]+"\r"+text[i:end-1])
	}
}

// Each byte put in at each place, in place of the one there, and each one left out.
func TestP19_1EachByteAtEachPlace(t *testing.T) {
	text := "\r\nG /a HTTP/1.0\r\nB: c \r\n\r\n"
	for i := range len(text) {
		comesByWords(t, text[:i]+text[i+1:])
		for c := range 256 {
			s := string([]byte{byte(c)})
			comesByWords(t, text[:i]+s+text[i:])
			comesByWords(t, text[:i]+s+text[i+1:])
		}
	}
}

// comesByWords is byWords, in one piece and byte by byte alone.
func comesByWords(t *testing.T, s string) {
	t.Helper()
	want := wordsFeed(s)
	comes(t, []string{s}, want)
	var bytes []string
	for i := range len(s) {
		bytes = append(bytes, s[i:i+1])
	}
	comes(t, bytes, want)
}

func TestP19_1LinesThatAreNoFields(t *testing.T) {
	for _, line := range []string{
		"a", "a b", ":", ": ", "::", ":b", " :b", " ", "\t", " a: b", "\ta: b", " b", "a : b", "a\t: b", "a b: c", "a\tb: c", "a, b: c", "a;: b", "(a): b", "\"a\": b", "a/b: c", "a@b: c", "[a]: b", "{a}: b", "a=b: c", "a?: b", "\\a: b", "<a>: b",
		"\u00fc: b", "a\x80: b", "\xff: b", "a\x00: b", "\x00", "a\x7f: b", "a: b\x00", "a: \x01b", "a:\x0b", "a:\x0c b", "a: b\x7f", "GET / HTTP/1.1", "GET http://a/ HTTP/1.1",
	} {
		refuses(t, "GET / HTTP/1.1\r\n"+line+"\r\n", api.ErrField)
		refuses(t, "GET / HTTP/1.1\r\na: b\r\n"+line+"\r\n", api.ErrField)
		refuses(t, "\r\nGET / HTTP/1.0\r\na:\r\nb:\r\n"+line+"\r\n", api.ErrField)
	}
}

func TestP19_1FirstLineOfMaxLine(t *testing.T) {
	for _, ahead := range []string{"", "\r\n"} {
		for _, more := range []int{-1, 0} {
			target := long("/abc", api.MaxLine+more-len("GET  HTTP/1.1"))
			line := "GET " + target + " HTTP/1.1"
			waits(t, ahead+line)
			waits(t, ahead+line+"\r")
			reads(t, ahead+line+"\r\n\r\n", "x", api.Head{Method: "GET", Target: target, Minor: 1})
			reads(t, ahead+line+"\r\na: b\r\n\r\n", "", api.Head{Method: "GET", Target: target, Minor: 1, Fields: []api.Field{{Name: "a", Value: "b"}}})
			refuses(t, ahead+line+"\n", api.ErrLine)
			refuses(t, ahead+line[:len(line)-1]+"2\r\n", api.ErrVersion)
			refuses(t, ahead+line[:len(line)-1]+"x\r\n", api.ErrStart)
		}
		for _, more := range []int{1, 2, 100} {
			line := "GET " + long("/abc", api.MaxLine+more-len("GET  HTTP/1.1")) + " HTTP/1.1"
			waits(t, ahead+line[:api.MaxLine+1])
			refuses(t, ahead+line[:api.MaxLine+1]+"\n", api.ErrLine)
			refuses(t, ahead+(line + "\r\n")[:api.MaxLine+2], api.ErrTarget)
		}
		for _, c := range []string{"x", " ", "\r", "\x00", "\xff", ":"} {
			line := strings.Repeat(c, api.MaxLine+2)
			waits(t, ahead+line[:api.MaxLine+1])
			refuses(t, ahead+line, api.ErrTarget)
		}
		refuses(t, ahead+strings.Repeat("x", api.MaxLine)+"\r\n", api.ErrStart)
		refuses(t, ahead+strings.Repeat("x", api.MaxLine+1)+"\r", api.ErrTarget)
	}
}

// The line that is ahead, or the first one, may be either, as long as nothing but bytes 13 come.
func TestP19_1LongLineAhead(t *testing.T) {
	waits(t, strings.Repeat("\r", api.MaxLine+1))
	refuses(t, strings.Repeat("\r", api.MaxLine+1)+"\n", api.ErrLine)
	refuses(t, strings.Repeat("\r", api.MaxLine+2), api.ErrTarget)
	refuses(t, "\r\n"+strings.Repeat("\r", api.MaxLine+2), api.ErrTarget)
}

func TestP19_1FieldsLineOfMaxLine(t *testing.T) {
	for _, ahead := range []string{"GET / HTTP/1.1\r\n", "GET / HTTP/1.1\r\nx: y\r\n", "\r\nGET / HTTP/1.1\r\nx: y\r\n"} {
		var before []string
		if strings.Contains(ahead, "x: y") {
			before = []string{"x", "y"}
		}
		for _, more := range []int{-1, 0} {
			value := long("bcd", api.MaxLine+more-len("a:"))
			waits(t, ahead+"a:"+value)
			waits(t, ahead+"a:"+value+"\r")
			reads(t, ahead+"a:"+value+"\r\n\r\n", "x", headOf(append(before, "a", value)...))
			reads(t, ahead+value+":a\r\nz:\r\n\r\n", "x", headOf(append(before, value, "a", "z", "")...))
			reads(t, ahead+"a:"+value[1:]+" \r\n\r\n", "x", headOf(append(before, "a", value[1:])...))
			refuses(t, ahead+"a:"+value+"\n", api.ErrLine)
			refuses(t, ahead+"a "+value+"\r\n", api.ErrField)
		}
		for _, more := range []int{1, 2, 100} {
			line := "a:" + long("bcd", api.MaxLine+more-len("a:"))
			waits(t, ahead+line[:api.MaxLine+1])
			refuses(t, ahead+line[:api.MaxLine+1]+"\n", api.ErrLine)
			refuses(t, ahead+(line + "\r\n")[:api.MaxLine+2], api.ErrMany)
		}
		for _, c := range []string{"x", " ", "\r", "\x00", "\xff", ":"} {
			waits(t, ahead+strings.Repeat(c, api.MaxLine+1))
			refuses(t, ahead+strings.Repeat(c, api.MaxLine+2), api.ErrMany)
		}
	}
}

func TestP19_1MaxFields(t *testing.T) {
	lines := make([]string, api.MaxFields)
	var these []string
	for i := range lines {
		lines[i] = "a" + strconv.Itoa(i%7) + ": " + strconv.Itoa(i)
		these = append(these, "a"+strconv.Itoa(i%7), strconv.Itoa(i))
	}
	front := "GET / HTTP/1.1\r\n"
	reads(t, with(lines[1:]...), "x", headOf(these[2:]...))
	reads(t, with(lines...), "x", headOf(these...))
	reads(t, "\r\n"+with(lines...), "a: b\r\n", headOf(these...))
	all := front + ended(lines...)
	waits(t, all)
	waits(t, all+"a: b")
	waits(t, all+"a: b\r")
	refuses(t, all+"a: b\r\n", api.ErrMany)
	refuses(t, all+"a:\r\n", api.ErrMany)
	refuses(t, all+"a\r\n", api.ErrMany) // ahead of ErrField
	refuses(t, all+" a: b\r\n", api.ErrMany)
	refuses(t, all+" \r\n", api.ErrMany)
	refuses(t, all+"\x00\r\n", api.ErrMany)
	refuses(t, all+"a: b\n", api.ErrLine) // ahead of ErrMany
	refuses(t, all+"a: b\r\r\n", api.ErrLine)
	refuses(t, all+"\n", api.ErrLine)
	refuses(t, all+strings.Repeat("x", api.MaxLine+2), api.ErrMany)
	refuses(t, front+ended(lines[1:]...)+"a\r\n", api.ErrField)
}

// filled is a head, without the empty line at its end, of so many bytes.
func filled(front string, bytes int) string {
	s := front
	for len(s)+4000 < bytes {
		s += "a: " + long("b", 3000) + "\r\n"
	}
	return s + "c:" + long("d", bytes-len(s)-len("c:\r\n")) + "\r\n"
}

func TestP19_1MaxHead(t *testing.T) {
	for _, front := range []string{"GET / HTTP/1.1\r\n", "\r\nGET / HTTP/1.1\r\n"} {
		whole := filled(front, api.MaxHead-2) + "\r\n"
		h, _, _ := wordsParse(whole)
		if len(whole) != api.MaxHead || len(h.Fields) != 6 {
			t.Fatal("no head of MaxHead bytes")
		}
		reads(t, whole, "", h)
		reads(t, whole, "x", h)
		waits(t, whole[:api.MaxHead-1])
		refuses(t, whole[:api.MaxHead-1]+"x\n", api.ErrMany)
		refuses(t, whole[:api.MaxHead-2]+"xxx", api.ErrMany)
		refuses(t, filled(front, api.MaxHead-1)+"\r\n", api.ErrMany)
		refuses(t, filled(front, api.MaxHead)+"\r", api.ErrMany)
		refuses(t, filled(front, api.MaxHead)+"\n", api.ErrMany) // ahead of ErrLine
		waits(t, filled(front, api.MaxHead))
		waits(t, filled(front, api.MaxHead-1)+"\r")
		refuses(t, filled(front, api.MaxHead-1)+"\n", api.ErrLine)
		refuses(t, filled(front, api.MaxHead-3)+" \r\n", api.ErrField)
		waits(t, filled(front, api.MaxHead-3)+"x\r\r")
		refuses(t, filled(front, api.MaxHead-3)+"x\r\r\n", api.ErrMany)
	}
}

func TestP19_1FirstErrorCounts(t *testing.T) {
	front := "GET / HTTP/1.1\r\n"
	refuses(t, "GET / HTTP/2.0\n", api.ErrLine)
	refuses(t, "GET / HTTP/2.0\r\r\n", api.ErrLine)
	refuses(t, "GET /\r HTTP/2.0\r\n", api.ErrLine)
	refuses(t, "\r \r\n", api.ErrLine)
	refuses(t, " x\n", api.ErrLine)
	refuses(t, front+" x\n", api.ErrLine)
	refuses(t, front+"a\r: b\r\n", api.ErrLine)
	refuses(t, front+"\r \r\n", api.ErrLine)
	refuses(t, long("\r", api.MaxLine+2), api.ErrTarget)
	refuses(t, front+long("\r", api.MaxLine+2), api.ErrMany)
	refuses(t, "GET / HTTP/2.0\r\n", api.ErrVersion) // ahead of what is wrong with the lines behind it
	refuses(t, front+"x\r\n", api.ErrField)          // the same
}

// What brings an error does so at its byte, not ahead of it.
func TestP19_1NotAheadOfTheByte(t *testing.T) {
	for _, s := range []string{
		"GET  / HTTP/1.1\r\n", " \r\n", "\x00\r\n", "GET / HTTP/9.9\r\n", "\xff\n", "\r\n\r\n", "\r\rx\n", "GET / HTTP/1.1\r\n \r\n", "GET / HTTP/1.1\r\na b c\r\n", "GET / HTTP/1.1\r\n\x00: b\r\n", "GET / HTTP/1.1\r\n\r\rx\n",
	} {
		for i := range len(s) {
			waits(t, s[:i])
		}
		byWords(t, s)
	}
}

func TestP19_1BehindTheEnd(t *testing.T) {
	r := New()
	if used, done, e := r.Feed(plain + "ab"); used != len(plain) || !done || e != api.OK {
		t.Fatalf("%d, %v, %v", used, done, e)
	}
	for _, s := range []string{"", "x", "\r\n", plain, "\n", strings.Repeat("x", api.MaxHead+1), ""} {
		if used, done, e := r.Feed(s); used != 0 || done || e != api.ErrState {
			t.Fatalf("Feed(%s) behind the end: %d, %v, %v", short(s), used, done, e)
		}
		if r.Bytes() != len(plain) || !same(r.Head(), headOf()) {
			t.Fatalf("Feed(%s) behind the end changed the reader", short(s))
		}
	}
}

func TestP19_1BehindAnError(t *testing.T) {
	front := "GET / HTTP/1.1\r\n"
	for s, want := range map[string]api.Errno{
		"\n":                                 api.ErrLine,
		"\r\n\r\n":                           api.ErrStart,
		"GET / HTTP/1.9\r\n":                 api.ErrVersion,
		long("x", api.MaxLine+2):             api.ErrTarget,
		front + "a: b\r\na\r\n":              api.ErrField,
		front + long("x", api.MaxLine+2):     api.ErrMany,
		front + long("a:b\r\n", 65*5):        api.ErrMany,
		filled(front, api.MaxHead) + "x":     api.ErrMany,
		front + "a: b\r\nc: d\n":             api.ErrLine,
		"\r\n" + front + "a: b\r\n\x7f:\r\n": api.ErrField,
	} {
		r := New()
		used, done, e := r.Feed(s + plain)
		if used != len(s) || done || e != want || r.Bytes() != len(s) {
			t.Fatalf("%s: %d, %v, %v", short(s), used, done, e)
		}
		for _, more := range []string{"", "x", "\r\n", plain, "\n", strings.Repeat("x", api.MaxHead+1), ""} {
			if used, done, e := r.Feed(more); used != 0 || done || e != want {
				t.Fatalf("Feed(%s) behind %s: %d, %v, %v", short(more), short(s), used, done, e)
			}
			if r.Bytes() != len(s) || !same(r.Head(), api.Head{}) {
				t.Fatalf("Feed(%s) behind %s changed the reader", short(more), short(s))
			}
		}
	}
}

func TestP19_1NilReaders(t *testing.T) {
	for _, r := range []*Reader{nil, {}, new(Reader)} {
		for _, s := range []string{"", "x", plain, "\n"} {
			if used, done, e := r.Feed(s); used != 0 || done || e != api.ErrNil {
				t.Fatalf("Feed(%q) of none: %d, %v, %v", s, used, done, e)
			}
			if h := r.Head(); !same(h, api.Head{}) {
				t.Fatalf("Head of none: %+v", h)
			}
			if n := r.Bytes(); n != 0 {
				t.Fatalf("Bytes of none: %d", n)
			}
		}
	}
}

func TestP19_1ByWords(t *testing.T) {
	pick := picker(1)
	for range 4000 {
		var b strings.Builder
		for range pick.IntN(12) {
			b.WriteString(one(pick, bits))
		}
		s := b.String()
		byWords(t, s)
		byWords(t, "GET / HTTP/1.1\r\n"+s)
		comes(t, cut(pick, s), wordsFeed(s))
	}
}

func TestP19_2Head(t *testing.T) {
	r := New()
	for i := range len(good) {
		if h := r.Head(); !same(h, api.Head{}) || r.Bytes() != i {
			t.Fatalf("behind %d bytes: %+v, %d", i, h, r.Bytes())
		}
		r.Feed(good[i : i+1])
	}
	if h := r.Head(); !same(h, goodHead) || r.Bytes() != len(good) {
		t.Fatalf("%+v, %d", h, r.Bytes())
	}
}

func TestP19_2FieldsInOrder(t *testing.T) {
	names := []string{"z", "b", "a", "b", "z", "z", "A", "c", "B"}
	var lines, these []string
	for i, name := range names {
		lines = append(lines, name+":"+strconv.Itoa(i))
		these = append(these, wordsSmall(name), strconv.Itoa(i))
	}
	reads(t, with(lines...), "", headOf(these...))
	slices.Reverse(lines)
	h, _, _ := Parse(with(lines...))
	for i, f := range h.Fields {
		if at := len(names) - 1 - i; f != (api.Field{Name: wordsSmall(names[at]), Value: strconv.Itoa(at)}) {
			t.Fatalf("%+v", h.Fields)
		}
	}
}

func TestP19_2Bytes(t *testing.T) {
	r := New()
	for i, x := range []struct {
		s     string
		bytes int
	}{{"", 0}, {"\r", 1}, {"\nG", 3}, {"", 3}, {"ET / HTTP/1.1\r\n", 18}, {"a:b\r\n\r\nmore", 25}, {"more", 25}} {
		r.Feed(x.s)
		if r.Bytes() != x.bytes {
			t.Fatalf("behind piece %d: %d bytes", i, r.Bytes())
		}
	}
	r = New()
	r.Feed("GET\r\nx")
	r.Feed("x")
	if r.Bytes() != 5 {
		t.Fatalf("behind an error: %d", r.Bytes())
	}
}

func TestP19_2NoHead(t *testing.T) {
	for _, s := range []string{"", "GET / HTTP/1.1\r\n", "GET / HTTP/1.1\r\na: b\r\n", "GET / HTTP/1.1\r\na: b\r\n\r", "GET / HTTP/1.1\r\na: b\r\n\n", "GET / HTTP/1.1\r\na: b\r\nc\r\n", "x\n"} {
		r := New()
		r.Feed(s)
		if h := r.Head(); !same(h, api.Head{}) {
			t.Fatalf("%q: %+v", s, h)
		}
	}
}

func TestP19_2AnswersStay(t *testing.T) {
	text := with("a: b", "c: d", "a: e")
	want := headOf("a", "b", "c", "d", "a", "e")
	r := New()
	r.Feed(text)
	first, second := r.Head(), r.Head()
	for i := range first.Fields {
		first.Fields[i] = api.Field{Name: "x", Value: "y"}
	}
	first.Fields = append(first.Fields, api.Field{})
	first.Method, first.Target, first.Minor = "x", "y", 9
	if !same(second, want) || !same(r.Head(), want) {
		t.Fatal("changing an answer changed another one, or the reader")
	}
	_ = append(second.Fields[:1], api.Field{Name: "z"})
	if !same(r.Head(), want) {
		t.Fatal("writing behind a part of an answer changed the reader")
	}
	third := r.Head()
	r.Feed("x")
	other := New()
	other.Feed(with("q: r", "s: t", "u: v"))
	if !same(third, want) {
		t.Fatal("a later call changed an answer")
	}
}

func TestP19_3Parse(t *testing.T) {
	for _, behind := range []string{"", "x", "\r\n", plain, "\x00", strings.Repeat("y", api.MaxHead)} {
		if h, used, e := Parse(good + behind); !same(h, goodHead) || used != len(good) || e != api.OK {
			t.Fatalf("%+v, %d, %v", h, used, e)
		}
	}
	for i := range len(good) {
		if h, used, e := Parse(good[:i]); !same(h, api.Head{}) || used != 0 || e != api.ErrShort {
			t.Fatalf("%q: %+v, %d, %v", good[:i], h, used, e)
		}
	}
	for s, want := range map[string]api.Errno{
		"\n":                                    api.ErrLine,
		"\r\n\r\n":                              api.ErrStart,
		"x\r\n":                                 api.ErrStart,
		"GET / HTTP/3.0\r\n":                    api.ErrVersion,
		"GET / HTTP/1.1\r\na: b\r\n:\r\n":       api.ErrField,
		"GET / HTTP/1.1\r\na: b\r\n\n":          api.ErrLine,
		long("x", api.MaxLine+2):                api.ErrTarget,
		filled("a b HTTP/1.0\r\n", 16384) + "x": api.ErrMany,
	} {
		for _, behind := range []string{"", "x", plain} {
			if h, used, e := Parse(s + behind); !same(h, api.Head{}) || used != len(s) || e != want {
				t.Fatalf("%s: %+v, %d, %v", short(s), h, used, e)
			}
		}
	}
}

// The heads that a text may have at its front, one behind the other.
func TestP19_3OneBehindTheOther(t *testing.T) {
	rest := good + "\r\n" + plain + good + with("a: b") + "GET"
	for _, want := range []api.Head{goodHead, headOf(), goodHead, headOf("a", "b")} {
		h, used, e := Parse(rest)
		if !same(h, want) || e != api.OK {
			t.Fatalf("%+v, %v", h, e)
		}
		rest = rest[used:]
	}
	if rest != "GET" {
		t.Fatal(rest)
	}
}

func TestP19_3ParseByWords(t *testing.T) {
	pick := picker(2)
	for range 3000 {
		s := anyHead(pick)
		byWords(t, s)
		if cut := pick.IntN(len(s) + 1); cut > 0 {
			byWords(t, s[:cut])
		}
	}
}

func TestP19_3Get(t *testing.T) {
	h := headOf("a", "1", "b", "2", "a", "", "A", "3", "", "4", "a", "1", "a b", "5", "\xff", "6")
	for name, want := range map[string][]string{
		"a": {"1", "", "1"}, "b": {"2"}, "A": {"3"}, "": {"4"}, "a b": {"5"}, "\xff": {"6"}, "c": nil, "aa": nil, "B": nil, " a": nil, "a ": nil, "\ufffd": nil,
	} {
		if l := Get(h, name); !slices.Equal(l, want) || !slices.Equal(l, wordsGet(h, name)) {
			t.Fatalf("Get(%q): %q, want %q", name, l, want)
		}
	}
	if l := Get(api.Head{}, ""); len(l) != 0 {
		t.Fatalf("Get of no fields: %q", l)
	}
	if l := Get(headOf(), "a"); len(l) != 0 {
		t.Fatalf("Get of no fields: %q", l)
	}
	h, _, _ = Parse(with("Host: a", "HOST:b", "host:", "hos: c", "hostt: d"))
	if l := Get(h, "host"); !slices.Equal(l, []string{"a", "b", ""}) {
		t.Fatalf("Get: %q", l)
	}
	if l := Get(h, "Host"); len(l) != 0 {
		t.Fatalf("Get: %q, though all names are in small letters", l)
	}
}

func TestP19_3GetByWords(t *testing.T) {
	pick := picker(3)
	names := []string{"a", "A", "b", "", "host", "ab", "\xff"}
	for range 500 {
		h := headOf()
		for range pick.IntN(80) {
			h.Fields = append(h.Fields, api.Field{Name: one(pick, names), Value: strconv.Itoa(pick.IntN(50))})
		}
		before := told(h)
		for _, name := range names {
			l := Get(h, name)
			if !slices.Equal(l, wordsGet(h, name)) {
				t.Fatalf("Get(%+v, %q): %q", h, name, l)
			}
			for i := range l {
				l[i] = "x"
			}
			_ = append(l, "y")
		}
		if told(h) != before {
			t.Fatal("Get, or changing what it answered, changed a head")
		}
	}
}

func TestP19_3Token(t *testing.T) {
	if Token("") {
		t.Fatal("a token has one byte or more")
	}
	for i := range 256 {
		s := string([]byte{byte(i)})
		want := strings.Contains(tokenBytes, s)
		for _, x := range []string{s, s + "a", "a" + s, "a" + s + "b", s + s, tokenBytes + s, s + tokenBytes} {
			if Token(x) != want || wordsToken(x) != want {
				t.Fatalf("Token(%q) is not %v", x, want)
			}
		}
	}
	for _, s := range []string{tokenBytes, "GET", "Content-Length", "0", strings.Repeat("x", 1<<16)} {
		if !Token(s) {
			t.Fatalf("Token(%s)", short(s))
		}
	}
	for _, s := range []string{" ", "a ", " a", "a b", "a:", "\u00fc", "\u0130", "\u212a", "a\n", "a\r\n", "\x00", strings.Repeat("x", 1<<16) + " "} {
		if Token(s) {
			t.Fatalf("Token(%s)", short(s))
		}
	}
}

func TestP19_3TokenByWords(t *testing.T) {
	pick := picker(4)
	for range 5000 {
		var s string
		for range pick.IntN(6) {
			s += one(pick, bits)
		}
		if Token(s) != wordsToken(s) {
			t.Fatalf("Token(%q)", s)
		}
	}
}

// What is answered has none of the memory that was handed in, which may be written anew by then.
func TestP19_3ArgumentsAreNotKept(t *testing.T) {
	text := "\r\n" + with("Ab: cd ", "ef:", "gh: ij")
	want := headOf("ab", "cd", "ef", "", "gh", "ij")
	for size := 1; size <= len(text); size++ {
		r := New()
		buffer := make([]byte, size)
		for rest := text; rest != ""; {
			n := copy(buffer, rest)
			rest = rest[n:]
			r.Feed(unsafe.String(&buffer[0], n))
			for i := range buffer {
				buffer[i] = 'X'
			}
		}
		if h := r.Head(); !same(h, want) {
			t.Fatalf("pieces of %d bytes: %+v", size, h)
		}
	}
	buffer := []byte(text)
	h, _, _ := Parse(unsafe.String(&buffer[0], len(buffer)))
	clear(buffer)
	if !same(h, want) {
		t.Fatalf("%+v", h)
	}
	buffer = []byte("value")
	h = headOf("a", unsafe.String(&buffer[0], len(buffer)))
	l := Get(h, "a")
	clear(buffer)
	if !slices.Equal(l, []string{"value"}) {
		t.Fatalf("%q", l)
	}
}

func TestP19_3ArgumentsStay(t *testing.T) {
	pick := picker(5)
	for range 300 {
		s := anyHead(pick)
		buffer := []byte(s)
		handed := unsafe.String(&buffer[0], len(buffer))
		Parse(handed)
		New().Feed(handed)
		Token(handed)
		if string(buffer) != s {
			t.Fatalf("%q became %q", s, buffer)
		}
	}
}

// anyHead is some head, or what is near to one.
func anyHead(pick *rand.Rand) string {
	s := one(pick, []string{"", "", "", "\r\n", "\r\n\r\n"})
	s += one(pick, firstLines) + one(pick, ends)
	few := len(fieldLines) - 10
	for range pick.IntN(8) {
		if pick.IntN(8) == 0 {
			few = len(fieldLines)
		}
		s += one(pick, fieldLines[:few]) + one(pick, ends[:1+pick.IntN(len(ends))])
	}
	return s + one(pick, ends[:12]) + one(pick, []string{"", "x", plain})
}

func TestP19_4AllCutsOfTwo(t *testing.T) {
	for _, s := range []string{
		good + "more", "\r\n" + good + plain, with("a: b", "c:\td ") + "\n", "\r\n\r\n" + good, "GET / HTTP/1.1\r\na: b\r\n c\r\n\r\n", "GET / HTTP/7.0\r\n\r\n", "GET / HTTP/1.1\r\na: \rb\r\n\r\n", "GET / HTTP/1.1\na: b\n\n", "GET / HTTP/1.1\r\nnever",
	} {
		want := wordsFeed(s)
		for i := range len(s) + 1 {
			for j := i; j <= len(s); j++ {
				comes(t, []string{s[:i], s[i:j], s[j:]}, want)
			}
		}
	}
}

func TestP19_4AnyPieces(t *testing.T) {
	pick := picker(6)
	for range 2000 {
		s := anyHead(pick)
		want := wordsFeed(s)
		for range 4 {
			comes(t, cut(pick, s), want)
		}
	}
}

func TestP19_4LongOnes(t *testing.T) {
	pick := picker(7)
	front := "GET / HTTP/1.1\r\n"
	for _, s := range []string{
		filled(front, api.MaxHead-2) + "\r\n" + plain, filled(front, api.MaxHead-1) + "\r\n" + plain, filled(front, api.MaxHead) + plain, long("x", 5000), front + long("x", 5000), front + long("a:b\r\n", 64*5) + "\r\n" + plain, front + long("a:b\r\n", 65*5) + "\r\n" + plain,
		"GET " + long("/", api.MaxLine-len("GET  HTTP/1.1")) + " HTTP/1.1\r\n\r\nx",
		long("\r\n"+front+"a: "+long("b", 200)+"\r\n", 1<<15),
		front + long("a: "+long("b", 248)+"\r\n", 1<<15),
	} {
		want := wordsFeed(s)
		for range 30 {
			comes(t, cut(pick, s), want)
		}
	}
}

// Readers know nothing of each other.
func TestP19_4Readers(t *testing.T) {
	texts := []string{good, plain, with("a: b", "c: d"), "GET / HTTP/1.0\r\nx: y\r\n\r\n", "GET / HTTP/9.9\r\n", "x\n"}
	var readers []*Reader
	for range texts {
		readers = append(readers, New())
	}
	for i := range len(with("a: b", "c: d")) + len(good) {
		for k, s := range texts {
			if i < len(s) {
				readers[k].Feed(s[i : i+1])
			}
		}
	}
	for k, s := range texts {
		if want := wordsFeed(s); !same(readers[k].Head(), want.head) || readers[k].Bytes() != want.used {
			t.Fatalf("%q: %+v", s, readers[k].Head())
		}
	}
}
