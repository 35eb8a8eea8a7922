package lex

import (
	"fmt"
	"slices"
	"strconv"
	"strings"
	"testing"

	"portcullis/api"
	"portcullis/utf"
)

// bits is some of all kinds: words, what divides, quotes, what stands behind a backslash, ends of lines, remarks, letters beyond ASCII, controls, bytes that are not well-formed.
var bits = []string{
	"allow", "deny", "a", "-", "1-9", "80", ".", "/", "{", "}", "u", "$", "'", ",", "!", "!!", ",,", " ", "  ", "\t", "#", "# x", `"`, `""`, `"a"`, `" "`, `"#"`, `"\"`, `\`, `\"`, `\\`, `\\\`, `\q`, `\n`, `\u`, `\u{`, `\u{}`, `\u{41}`, `\u{0}`, `\u{00000a}`, `\u{FC}`, `\u{1f600}`, `\u{d7ff}`, `\u{D800}`, `\u{dfff}`, `\u{E000}`, `\u{10ffff}`, `\u{110000}`, `\u{0000041}`, `\u{g}`, `\U{41}`, `\u(41)`,
	"\n", "\r\n", "\r", "\r\r\n", "\n\n", "\u00FC", "\u20AC", "\U0001F600", "\uFFFD", "\u0085", "\u00A0", "\u2028", "\uFEFF", "\x00", "\x07", "\x0b", "\x1f", "\x7f", "\x80", "\xff", "\xc3", "\xe2\x82", "\xed\xa0\x80", "\xf0\x9f\x92", "\xc0\x80",
}

// goodBits is the same without what may be refused, for texts that are read.
var goodBits = []string{
	"allow", "a", "1-9", "\\", "\\\\", "}", ",", "!", " ", "\t", "\n", "\r\n", " # x\n", "#\"\\q\n", "#\r\n", `""`, `"a"`, `"b c"`, `"#!,"`, `"\""`, `"\\"`, `"\u{41}\u{0a}"`, "\"\u00FC\"", "\u00FC", "\U0001F600", "\uFFFD", "\"\uFFFD\t\"",
}

// fewBits is some, for all texts of a few of them.
var fewBits = []string{"a", ",", "!", " ", `"`, `\`, "#", "\n", "\r", "\x01", "\xc3", "\u00FC", `\u{41}`}

// illFormed is bytes that are not well-formed, each wrong from its first byte on.
var illFormed = []string{
	"\x80", "\xbf", "\xc0", "\xc1", "\xc0\x80", "\xc1\xbf", "\xc2", "\xc3", "\xdf", "\xe0", "\xe0\x80\x80", "\xe0\x9f\xbf", "\xe0\xa0", "\xe2\x82", "\xed\xa0\x80", "\xed\xbf\xbf", "\xef\xbf", "\xf0", "\xf0\x80\x80\x80", "\xf0\x8f\xbf\xbf", "\xf0\x9f", "\xf0\x9f\x92", "\xf4\x90\x80\x80", "\xf5\x80\x80\x80", "\xf8\x88\x80\x80\x80", "\xfe", "\xff",
}

func TestP15_1Examples(t *testing.T) {
	reads(t, `allow host "b\u{fc}cher.de" # x`, `1:0allow 1:6host 1:11"b\u00fccher.de" 1:31.`)
	reads(t, "deny !ports 1-9,80", "1:0deny 1:5! 1:6ports 1:121-9 1:15, 1:1680 1:18.")
	reads(t, "\nx\r\n", "2:0x 2:1.")
	refuses(t, `a "b`, api.ErrText, 1, 2)
	refuses(t, `a "\q"`, api.ErrText, 1, 3)
	refuses(t, "abc\x07", api.ErrByte, 1, 3)
	refuses(t, "a b\x07c", api.ErrByte, 1, 3)
}

func TestP15_1ExamplesOfRules(t *testing.T) {
	reads(t, "deny like paypal.com !host paypal.com\nallow under example.com ports 80, 443\nallow host paypal.com\n",
		"1:0deny 1:5like 1:10paypal.com 1:21! 1:22host 1:27paypal.com 1:37. 2:0allow 2:6under 2:12example.com 2:24ports 2:3080 2:32, 2:34443 2:37. 3:0allow 3:6host 3:11paypal.com 3:21.")
	reads(t, "allow net 10.0.0.0/8", "1:0allow 1:6net 1:1010.0.0.0/8 1:20.")
	reads(t, "allow scripts Latin,", "1:0allow 1:6scripts 1:14Latin 1:19, 1:20.")
}

func TestP15_1TokensWhole(t *testing.T) {
	lexed(t, "a,!\"b\"\nc", []api.Token{
		{Kind: 1, Text: "a", Line: 1, At: 0}, {Kind: 3, Line: 1, At: 1}, {Kind: 4, Line: 1, At: 2}, {Kind: 2, Text: "b", Line: 1, At: 3}, {Kind: 5, Line: 1, At: 6},
		{Kind: 1, Text: "c", Line: 2, At: 0}, {Kind: 5, Line: 2, At: 1},
	}, api.Fault{})
}

func TestP15_1Lines(t *testing.T) {
	for s, want := range map[string]string{
		"":                     "",
		"\n":                   "",
		"\n\n\n":               "",
		"a":                    "1:0a 1:1.",
		"a\n":                  "1:0a 1:1.",
		"a\n\n":                "1:0a 1:1.",
		"\na":                  "2:0a 2:1.",
		"\n\n\na\n\n\nb\n\n":   "4:0a 4:1. 7:0b 7:1.",
		"a\nb":                 "1:0a 1:1. 2:0b 2:1.",
		" ":                    "",
		"\t \t":                "",
		" \n\t\n \t \n":        "",
		" \n\ta":               "2:1a 2:2.",
		"#":                    "",
		"# x":                  "",
		"#\n#\n  # x\n":        "",
		"# x\na # y\n# z\nb":   "2:0a 2:5. 4:0b 4:1.",
		"a  ":                  "1:0a 1:3.",
		"\t a \t\n":            "1:2a 1:5.",
		"a\tb  c":              "1:0a 1:2b 1:5c 1:6.",
		",":                    "1:0, 1:1.",
		"!\n!":                 "1:0! 1:1. 2:0! 2:1.",
		"\"\"\n":               "1:0\"\" 1:2.",
		"a b\n c d\n  e f\n\n": "1:0a 1:2b 1:3. 2:1c 2:3d 2:4. 3:2e 3:4f 3:5.",
	} {
		reads(t, s, want)
	}
}

func TestP15_1Returns(t *testing.T) {
	reads(t, "\r\n", "")
	reads(t, "\r\n\r\n", "")
	reads(t, "a\r\n", "1:0a 1:1.")
	reads(t, "a\r\nb\nc\r\n", "1:0a 1:1. 2:0b 2:1. 3:0c 3:1.")
	reads(t, "\r\n\r\na \r\n", "3:0a 3:2.")
	reads(t, "a # x\r\n", "1:0a 1:5.")
	reads(t, "#\r\n", "")
	reads(t, "\"a\"\r\n", "1:0\"a\" 1:3.")
	refuses(t, "\r", api.ErrByte, 1, 0)
	refuses(t, "a\r", api.ErrByte, 1, 1)
	refuses(t, "a\r\nb\r", api.ErrByte, 2, 1)
	refuses(t, "\n\r", api.ErrByte, 2, 0)
	refuses(t, "\r\r\n", api.ErrByte, 1, 0)
	refuses(t, "a\r\r\n", api.ErrByte, 1, 1)
	refuses(t, "a\r\r\r\n", api.ErrByte, 1, 1)
	refuses(t, "a\r b\r\n", api.ErrByte, 1, 1)
	refuses(t, "\ra\n", api.ErrByte, 1, 0)
	refuses(t, "a\r \n", api.ErrByte, 1, 1)
	refuses(t, "# \r \n", api.ErrByte, 1, 2)
	refuses(t, "# \r", api.ErrByte, 1, 2)
	refuses(t, "\"\r\"", api.ErrByte, 1, 1)
	refuses(t, "\"a\r\n\"", api.ErrText, 1, 0) // the 13 counts for nothing within quotes that are not closed, too
	refuses(t, "\"a\\\r\n", api.ErrText, 1, 2)
}

func TestP15_1Remarks(t *testing.T) {
	for s, want := range map[string]string{
		`"#"`:              `1:0"#" 1:3.`,
		`"a # b" # "c`:     `1:0"a # b" 1:12.`,
		`a#b`:              "1:0a 1:3.",
		`a# b`:             "1:0a 1:4.",
		`a #`:              "1:0a 1:3.",
		`#a`:               "",
		`##`:               "",
		`  # a`:            "",
		`,#,`:              "1:0, 1:3.",
		`!#!`:              "1:0! 1:3.",
		`"a"#"b"`:          `1:0"a" 1:7.`,
		`a # "`:            "1:0a 1:5.",
		`a # \q \u{`:       "1:0a 1:10.",
		"# \"\nb":          "2:0b 2:1.",
		"# \tx\n":          "",
		"a # \u00FC\uFFFD": "1:0a 1:9.",
		"a # b # c\nd":     "1:0a 1:9. 2:0d 2:1.",
	} {
		reads(t, s, want)
	}
	refuses(t, "# \x01", api.ErrByte, 1, 2)
	refuses(t, "# \x7f", api.ErrByte, 1, 2)
	refuses(t, "a\n# \xff", api.ErrUtf, 2, 2)
	refuses(t, "a # \"\xc3", api.ErrUtf, 1, 5)
}

func TestP15_1WhatTouches(t *testing.T) {
	for s, want := range map[string]string{
		`a,b`:                          "1:0a 1:1, 1:2b 1:3.",
		`a!b`:                          "1:0a 1:1! 1:2b 1:3.",
		`a"b"c`:                        `1:0a 1:1"b" 1:4c 1:5.`,
		`"a""b"`:                       `1:0"a" 1:3"b" 1:6.`,
		`""""`:                         `1:0"" 1:2"" 1:4.`,
		`a#b,c`:                        "1:0a 1:5.",
		`,,`:                           "1:0, 1:1, 1:2.",
		`!!`:                           "1:0! 1:1! 1:2.",
		`,!,`:                          "1:0, 1:1! 1:2, 1:3.",
		`!"a",`:                        `1:0! 1:1"a" 1:4, 1:5.`,
		`! a`:                          "1:0! 1:2a 1:3.",
		`a ,b`:                         "1:0a 1:2, 1:3b 1:4.",
		`a-b.c/d:e`:                    "1:0a-b.c/d:e 1:9.",
		`a\b`:                          `1:0a\b 1:3.`,
		`\`:                            `1:0\ 1:1.`,
		`\q\u{zz}`:                     `1:0\q\u{zz} 1:8.`,
		`\u{41}`:                       `1:0\u{41} 1:6.`,
		`\"a"`:                         `1:0\ 1:1"a" 1:4.`,
		`'a b'`:                        `1:0'a 1:3b' 1:5.`,
		`$%&()*+;<=>`:                  "1:0$%&()*+;<=> 1:11.",
		"\u00FC\"\u20AC\"\U0001F600,x": "1:0\u00FC 1:2\"\\u20ac\" 1:7\U0001F600 1:11, 1:12x 1:13.",
		"a\u00A0b\u2028c\u0085d":       "1:0a\u00A0b\u2028c\u0085d 1:11.",
		"\uFEFFa":                      "1:0\uFEFFa 1:4.",
		"\uFFFD":                       "1:0\uFFFD 1:3.",
	} {
		reads(t, s, want)
	}
}

// said holds what stands between quotes to what it says.
func said(t *testing.T, inner, want string) {
	t.Helper()
	s := "a \"" + inner + "\"!"
	lexed(t, s, []api.Token{{Kind: 1, Text: "a", Line: 1}, {Kind: 2, Text: want, Line: 1, At: 2}, {Kind: 4, Line: 1, At: len(s) - 1}, {Kind: 5, Line: 1, At: len(s)}}, api.Fault{})
}

func TestP15_1Quotes(t *testing.T) {
	for inner, want := range map[string]string{
		``:                 "",
		` `:                " ",
		"\t":               "\t",
		`a b, !c # d`:      "a b, !c # d",
		`\"`:               `"`,
		`\\`:               `\`,
		`\\\"`:             `\"`,
		`\\\\`:             `\\`,
		`\"\"`:             `""`,
		`\\u{41}`:          `\u{41}`,
		`\u{41}`:           "A",
		`\u{0}`:            "\x00",
		`\u{9}`:            "\t",
		`\u{a}\u{d}`:       "\n\r",
		`\u{A}\u{D}`:       "\n\r",
		`\u{22}\u{5c}`:     `"\`,
		`\u{7f}`:           "\x7f",
		`\u{80}`:           "\u0080",
		`\u{fc}`:           "\u00FC",
		`\u{FC}`:           "\u00FC",
		`\u{fC}\u{Fc}`:     "\u00FC\u00FC",
		`\u{20ac}`:         "\u20AC",
		`\u{1f600}`:        "\U0001F600",
		`\u{10ffff}`:       "\U0010FFFF",
		`\u{10FFFF}`:       "\U0010FFFF",
		`\u{000041}`:       "A",
		`\u{00041}`:        "A",
		`\u{0041}`:         "A",
		`\u{041}`:          "A",
		`\u{000000}`:       "\x00",
		`\u{d7ff}`:         "\uD7FF",
		`\u{00D7FF}`:       "\uD7FF",
		`\u{e000}`:         "\uE000",
		`\u{fffd}`:         "\uFFFD",
		`\u{fffe}\u{ffff}`: "\uFFFE\uFFFF",
		`a\u{41}b\"c\\d`:   `aAb"c\d`,
		"\u00FC\uFFFD":     "\u00FC\uFFFD",
		`{}u`:              "{}u",
		`\u{41}41}`:        "A41}",
		`\u{41}{41}`:       "A{41}",
	} {
		said(t, inner, want)
	}
}

// unsaid holds text in quotes that begins at 1 with such a backslash to a fault there, and so without its last quote, and behind others.
func unsaid(t *testing.T, inner string) {
	t.Helper()
	refuses(t, `"`+inner+`"`, api.ErrText, 1, 1)
	refuses(t, `"`+inner, api.ErrText, 1, 1)
	refuses(t, `"`+inner+"\n\"", api.ErrText, 1, 1)
	refuses(t, `"`+inner+`" "\q" "`, api.ErrText, 1, 1)
	refuses(t, "\n x \"\u00FC\\\\\\\"\\u{1F600}"+inner+`" "\q`, api.ErrText, 2, 19)
}

func TestP15_1Backslashes(t *testing.T) {
	for _, inner := range []string{
		`\q`, `\n`, `\t`, `\r`, `\0`, `\x41`, `\'`, `\ `, `\,`, `\!`, `\#`, `\/`, `\{`, `\}`, `\u`, `\u4`, `\u41`, `\u0041`, `\u{`, `\u{}`, `\u}`, `\u{4`, `\u{41`, `\u41}`, `\u{41)`, `\u(41)`, `\u[41]`, `\u {41}`, `\u{ 41}`, `\u{41 }`, `\U{41}`, `\U00000041`,
		`\u{0000041}`, `\u{1000041}`, `\u{0000000}`, `\u{10ffff0}`, `\u{00000000000041}`, `\u{d800}`, `\u{D800}`, `\u{00d800}`, `\u{dbff}`, `\u{dc00}`, `\u{dfff}`, `\u{0DFFF}`, `\u{110000}`, `\u{110001}`, `\u{200000}`, `\u{ffffff}`, `\u{FFFFFF}`, `\u{100000000}`, `\u{10000000000000041}`,
		`\u{g}`, `\u{4g}`, `\u{G}`, `\u{-1}`, `\u{+1}`, `\u{+41}`, `\u{0x41}`, `\u{0X4}`, `\u{4_1}`, `\u{_41}`, `\u{4.}`, `\u{4,1}`, `\u{{41}}`, `\u{"41"}`, `\u{\u{41}}`, `\u{41\}`, "\\\u00FC", "\\u{\uFF14}", "\\u{\u0664}", "\\\uFFFD",
	} {
		unsaid(t, inner)
	}
}

func TestP15_1EachByteBehindABackslash(t *testing.T) {
	for c := ' '; c < 0x7F; c++ {
		if c != '"' && c != '\\' {
			unsaid(t, `\`+string(c))
		}
		isDigit := strings.ContainsRune("0123456789abcdefABCDEF", c)
		if isDigit {
			n, _ := strconv.ParseInt("4"+string(c), 16, 32)
			said(t, `\u{4`+string(c)+`}`, string(rune(n)))
		} else if c != '}' {
			unsaid(t, `\u{4`+string(c)+`}`)
		}
	}
}

func TestP15_1BackslashAtTheEnd(t *testing.T) {
	refuses(t, `"\`, api.ErrText, 1, 1)
	refuses(t, "\"\\\n", api.ErrText, 1, 1)
	refuses(t, "\"\\\r\n", api.ErrText, 1, 1)
	refuses(t, "\"a\\\n\"", api.ErrText, 1, 2)
	refuses(t, `"\\\`, api.ErrText, 1, 3)
	refuses(t, `"\\`, api.ErrText, 1, 0)
	refuses(t, `"\"`, api.ErrText, 1, 0)
	refuses(t, `"\\\"`, api.ErrText, 1, 0)
	reads(t, `"\\"`, `1:0"\\" 1:4.`)
	reads(t, `"a" \`, `1:0"a" 1:4\ 1:5.`)
}

func TestP15_1QuotesNotClosed(t *testing.T) {
	refuses(t, `"`, api.ErrText, 1, 0)
	refuses(t, `a "`, api.ErrText, 1, 2)
	refuses(t, `a"`, api.ErrText, 1, 1)
	refuses(t, `"""`, api.ErrText, 1, 2)
	refuses(t, `"a" "b" "c`, api.ErrText, 1, 8)
	refuses(t, `"a # b`, api.ErrText, 1, 0)
	refuses(t, "\"a\nb\"", api.ErrText, 1, 0)
	refuses(t, "x\n\"a\nb\"", api.ErrText, 2, 0)
	refuses(t, "x\n\u00FC \"", api.ErrText, 2, 3)
	refuses(t, `"\u{41}`, api.ErrText, 1, 0)
	refuses(t, `"a\"b`, api.ErrText, 1, 0)
}

func TestP15_1WhichTextFault(t *testing.T) {
	refuses(t, `"a \q`, api.ErrText, 1, 3)          // not closed, and a backslash
	refuses(t, `"a \" \q`, api.ErrText, 1, 6)       // the same behind one that is well
	refuses(t, `"\q \z"`, api.ErrText, 1, 1)        // two backslashes
	refuses(t, `"\q" "b`, api.ErrText, 1, 1)        // a backslash, then quotes that are not closed
	refuses(t, `"a" "b \q" "c`, api.ErrText, 1, 7)  // and behind quotes that are well
	refuses(t, `\q "a \`, api.ErrText, 1, 6)        // a backslash in a word is none of them
	refuses(t, `"\u{110000} \q`, api.ErrText, 1, 1) // a number that is none, then another
	refuses(t, `"\u{41} \u{d800}`, api.ErrText, 1, 8)
}

func TestP15_1EachByte(t *testing.T) {
	for c := range 256 {
		one := string([]byte{byte(c)})
		for _, form := range []string{"%s", "a%s", "%sa", "a %s b", "\"%s\"", "\"a%sb\"", "# %s", "#%s x", "%s\n", "a\n%s\nb", "\"a\"%s", "!%s,", "a%s\r\n", "%s\"", "\"\\%s\"", "\"\\u{%s}\"", "\"\\u{4%s}\"", "\"\\u%s41}\"", "\"\\u{41%s\""} {
			byWords(t, fmt.Sprintf(form, one))
		}
	}
}

func TestP15_1BytesThatMayNotBe(t *testing.T) {
	for c := range 128 {
		if c >= 32 && c < 127 || c == 9 || c == 10 {
			continue
		}
		one := string(rune(c))
		refuses(t, one, api.ErrByte, 1, 0)
		refuses(t, "ab "+one, api.ErrByte, 1, 3)
		refuses(t, "a"+one+"b", api.ErrByte, 1, 1)
		refuses(t, "\""+one+"\"", api.ErrByte, 1, 1)
		refuses(t, "x\n\n# \u00FC"+one, api.ErrByte, 3, 4)
		refuses(t, one+one+"\n"+one, api.ErrByte, 1, 0)
		refuses(t, "\"\\"+one, api.ErrByte, 1, 2)
	}
}

func TestP15_1NotWellFormed(t *testing.T) {
	for _, bad := range illFormed {
		refuses(t, bad, api.ErrUtf, 1, 0)
		refuses(t, "a"+bad, api.ErrUtf, 1, 1)
		refuses(t, "a"+bad+"b\n", api.ErrUtf, 1, 1)
		refuses(t, "\""+bad+"\"", api.ErrUtf, 1, 1)
		refuses(t, "# "+bad, api.ErrUtf, 1, 2)
		refuses(t, "x\r\n \u00FC\uFFFD"+bad+"\r\ny", api.ErrUtf, 2, 6)
		refuses(t, bad+"\n"+bad, api.ErrUtf, 1, 0)
		refuses(t, "a\n\n\"\\"+bad, api.ErrUtf, 3, 2)
		byWords(t, "\uFFFD"+bad+bad)
	}
	refuses(t, "\xe2\n\x82\xac", api.ErrUtf, 1, 0) // a scalar is not gone on with behind the line's end
	refuses(t, "\xe2\x82\r\n", api.ErrUtf, 1, 0)
}

func TestP15_1SeveralFaultsInOneLine(t *testing.T) {
	refuses(t, "\x01 \xff", api.ErrUtf, 1, 2)
	refuses(t, "\xff \x01", api.ErrUtf, 1, 0)
	refuses(t, "\" \xff", api.ErrUtf, 1, 2)
	refuses(t, "\"\\q\" \x01 \xff", api.ErrUtf, 1, 7)
	refuses(t, "\"\\q\" \x01", api.ErrByte, 1, 5)
	refuses(t, "\" \x01", api.ErrByte, 1, 2)
	refuses(t, "\x01 \"", api.ErrByte, 1, 0)
	refuses(t, "\"a # \x7f", api.ErrByte, 1, 5)
	refuses(t, "\" # \xff", api.ErrUtf, 1, 4)
	refuses(t, "\x02\x01", api.ErrByte, 1, 0)
	refuses(t, "\xff\xfe", api.ErrUtf, 1, 0)
	refuses(t, "\r\xff\r\r\n", api.ErrUtf, 1, 1)
	refuses(t, "\"\r\r\n", api.ErrByte, 1, 1)
}

func TestP15_1SeveralFaultsInSeveralLines(t *testing.T) {
	refuses(t, "\"\n\xff\n\x01", api.ErrText, 1, 0)
	refuses(t, "\x01\n\xff", api.ErrByte, 1, 0)
	refuses(t, "a\n\"\\q\n\xff\n", api.ErrText, 2, 1)
	refuses(t, "a\nb \x01 \"\n\xff", api.ErrByte, 2, 2)
	refuses(t, "a\n\"b\"\n\xff\n\x01\n\"", api.ErrUtf, 3, 0)
	refuses(t, "# \"\\q\n\n\"\\q\n\xff", api.ErrText, 3, 1)
	refuses(t, "\r\n\r\n\r", api.ErrByte, 3, 0)
}

func TestP15_1Long(t *testing.T) {
	full := long("a", api.MaxText)
	lexed(t, full, []api.Token{{Kind: 1, Text: full, Line: 1}, {Kind: 5, Line: 1, At: 65536}}, api.Fault{})
	reads(t, long(" ", api.MaxText), "")
	reads(t, long("\n", api.MaxText), "")
	reads(t, long("\n", api.MaxText-1)+"a", "65536:0a 65536:1.")
	reads(t, long("#", api.MaxText), "")
	refuses(t, long("#", api.MaxText-1)+"\x01", api.ErrByte, 1, 65535)
	refuses(t, long(" ", api.MaxText-1)+"\"", api.ErrText, 1, 65535)
	refuses(t, long("\n", api.MaxText-1)+"\xff", api.ErrUtf, 65536, 0)
	for _, s := range []string{"a", " ", "\n", "\r\n", "#", "\"", "\\", "\x01", "\xff", "\u00FC", "a,", "\"\\q"} {
		refuses(t, long(s, api.MaxText+1), api.ErrLong, 0, 0)
		refuses(t, long(s, api.MaxText+2), api.ErrLong, 0, 0)
		refuses(t, long(s, 1<<20), api.ErrLong, 0, 0)
		byWords(t, long(s, api.MaxText-1))
	}
	for _, s := range []string{",", "!", "a ", "a\n", `""`, "\"\\u{41}\"\r\n", `"\""`, "\u00FC!"} {
		want, f := wordsLex(long(s, api.MaxText-api.MaxText%len(s)))
		lexed(t, long(s, api.MaxText-api.MaxText%len(s)), want, f)
	}
	inner := strings.Repeat(`\u{1f600}`, 7000)
	said(t, inner, strings.Repeat("\U0001F600", 7000))
}

// TestP15_1EachCodePoint tells each number by its digits, and those beyond the last one.
func TestP15_1EachCodePoint(t *testing.T) {
	for n := range 0x111000 {
		digits := strconv.FormatInt(int64(n), 16)
		if n%3 == 1 {
			digits = strings.ToUpper(digits)
		}
		if n%5 == 1 {
			digits = fmt.Sprintf("%06s", digits)
		}
		l, f := Lex(`"\u{` + digits + `}"`)
		if n > 1114111 || n >= 55296 && n <= 57343 {
			if len(l) != 0 || f != (api.Fault{Err: api.ErrText, Line: 1, At: 1}) {
				t.Fatalf("%s: %v %v", digits, l, f)
			}
			continue
		}
		if len(l) != 2 || l[0] != (api.Token{Kind: 2, Text: string(rune(n)), Line: 1}) || l[1].At != len(digits)+6 || f != (api.Fault{}) {
			t.Fatalf("%s: %v %v", digits, l, f)
		}
	}
}

// TestP15_1EachScalar has each scalar beyond ASCII in a word, in quotes and in a remark.
func TestP15_1EachScalar(t *testing.T) {
	for r := rune(0x80); r <= 0x10FFFF; r++ {
		if r >= 0xD800 && r <= 0xDFFF {
			continue
		}
		s := string(r)
		l, f := Lex(s + `"` + s + `"#` + s)
		n := len(s)
		want := [3]api.Token{{Kind: 1, Text: s, Line: 1}, {Kind: 2, Text: s, Line: 1, At: n}, {Kind: 5, Line: 1, At: 3*n + 3}}
		if len(l) != 3 || [3]api.Token(l) != want || f != (api.Fault{}) {
			t.Fatalf("%x: %v %v", r, l, f)
		}
	}
}

func TestP15_1ByTheWords(t *testing.T) {
	texts(4, fewBits, func(s string) { byWords(t, s) })
	texts(2, bits, func(s string) { byWords(t, s) })
	texts(2, bits, func(s string) { byWords(t, `"`+s+`"`) })
	for seed := range uint64(20000) {
		byWords(t, picked(seed, int(seed%30), bits))
		byWords(t, picked(seed, int(seed%9), fewBits))
		byWords(t, picked(seed, int(seed%40), goodBits))
	}
}

func TestP15_2QuoteExamples(t *testing.T) {
	for s, want := range map[string]string{
		"":                   `""`,
		"a":                  `"a"`,
		" a\u00FC b ":        "\" a\u00FC b \"",
		`"`:                  `"\""`,
		`\`:                  `"\\"`,
		`a"b\c`:              `"a\"b\\c"`,
		`\u{41}`:             `"\\u{41}"`,
		`\\""`:               `"\\\\\"\""`,
		"\x00":               `"\u{0}"`,
		"\t":                 `"\u{9}"`,
		"\n":                 `"\u{a}"`,
		"\r\n":               `"\u{d}\u{a}"`,
		"\x10":               `"\u{10}"`,
		"\x1f":               `"\u{1f}"`,
		"\x7f":               `"\u{7f}"`,
		"\u0080\u0085\u009F": "\"\u0080\u0085\u009F\"",
		"\u00A0\u2028\uFEFF": "\"\u00A0\u2028\uFEFF\"",
		"\uFFFD":             "\"\uFFFD\"",
		"\U0010FFFF":         "\"\U0010FFFF\"",
		"#,! '/{}":           `"#,! '/{}"`,
		"\x001":              `"\u{0}1"`,
	} {
		quotedAs(t, s, want, api.OK)
	}
}

func TestP15_2QuoteEachCodePoint(t *testing.T) {
	for r := rune(0); r <= 0x10FFFF; r++ {
		if r >= 0xD800 && r <= 0xDFFF {
			continue
		}
		want := "\"" + string(r) + "\""
		switch {
		case r < 32 || r == 127:
			want = fmt.Sprintf("\"\\u{%x}\"", r)
		case r == 34 || r == 92:
			want = "\"\\" + string(r) + "\""
		}
		if got, e := Quote(string(r)); got != want || e != api.OK {
			t.Fatalf("%x: %q %v", r, got, e)
		}
	}
}

func TestP15_2QuoteLong(t *testing.T) {
	for _, one := range []string{"a", "\"", "\\", "\x00", "\x1f", "\u00FC", "\U0001F600"} {
		full := strings.Repeat(one, api.MaxText/len(one))
		quotedAs(t, full, `"`+strings.Repeat(wordsInQuotes(one)[1:len(wordsInQuotes(one))-1], api.MaxText/len(one))+`"`, api.OK)
		quotedAs(t, full+"a", "", api.ErrLong)
		quotedAs(t, full+full, "", api.ErrLong)
		quotedAs(t, full+"\xff", "", api.ErrUtf)
		quotedAs(t, full[len(one):]+strings.Repeat("\xff", len(one)), "", api.ErrUtf)
	}
}

func TestP15_2QuoteNotWellFormed(t *testing.T) {
	for _, bad := range illFormed {
		for _, s := range []string{bad, "a" + bad, bad + "a", "\"" + bad, "\\" + bad + "\x01", "\uFFFD" + bad, long("a", 1<<17) + bad, bad + long("a", 1<<17)} {
			quotedAs(t, s, "", api.ErrUtf)
		}
	}
}

func TestP15_2WriteExamples(t *testing.T) {
	writes(t, list(word("a"), not, text("\"\x01"), comma, word("b"), end), "a !\"\\\"\\u{1}\", b\n", api.OK)
	writes(t, list(word("allow"), word("host"), text("b\u00FCcher.de"), end), "allow host \"b\u00FCcher.de\"\n", api.OK)
	writes(t, list(word("deny"), not, word("ports"), word("1-9"), comma, word("80"), end), "deny !ports 1-9, 80\n", api.OK)
	writes(t, list(word("a"), end, text(""), end, not, end, comma, end), "a\n\"\"\n!\n,\n", api.OK)
	writes(t, nil, "", api.OK)
	writes(t, []api.Token{}, "", api.OK)
}

func TestP15_2WriteBlanks(t *testing.T) {
	signs := map[string]api.Token{"w": word("w"), `"t"`: text("t"), ",": comma, "!": not}
	for a, x := range signs {
		for b, y := range signs {
			want := a + " " + b
			if a == "!" || b == "," {
				want = a + b
			}
			writes(t, list(x, y, end), want+"\n", api.OK)
			writes(t, list(x, end, y, end), a+"\n"+b+"\n", api.OK)
		}
	}
	writes(t, list(not, not, comma, comma, not, comma, word("a"), text("b"), not, not, word("c"), end), "!!,, !, a \"b\" !!c\n", api.OK)
}

func TestP15_2WriteKinds(t *testing.T) {
	for kind := range 256 {
		if kind >= 1 && kind <= 5 {
			continue
		}
		k := uint8(kind)
		noWrite(t, api.ErrArg, list(api.Token{Kind: k}), list(api.Token{Kind: k}, end), list(api.Token{Kind: k, Text: "a"}, end), list(word("a"), api.Token{Kind: k}, end), list(word("a"), end, api.Token{Kind: k}), list(word("a"), api.Token{Kind: k}))
	}
}

func TestP15_2WriteWords(t *testing.T) {
	bad := []string{"", " ", "a b", " a", "a ", "a\t", "\ta", "a,b", ",", "a,", "!", "!a", "a!", `"`, `"a"`, `a"`, "#", "a#", "#a", "a\n", "\n", "a\nb", "a\r", "\ra", "\r", "\x00", "a\x01b", "\x1f", "\x7f", "a\x7f"}
	for _, s := range append(bad, illFormed...) {
		noWrite(t, api.ErrArg, list(word(s), end), list(word("a"), word(s), end), list(word("a"), end, word(s), end), list(word("a"+s+" "), end))
	}
	for _, s := range []string{"a", "1-9", "10.0.0.0/8", `\`, `a\b`, `\u{41}`, "'", "{}", "\u00FC", "\u0080", "\u00A0", "\u2028", "\uFEFF", "\uFFFD", "\U0001F600", "$%&'()*+-./:;<=>?@[\\]^_`{|}~"} {
		writes(t, list(word(s), end), s+"\n", api.OK)
		writes(t, list(word(s), word(s), comma, not, word(s), end), s+" "+s+", !"+s+"\n", api.OK)
	}
	for c := range 256 {
		for _, form := range []string{"%s", "a%s", "%sa", "\u00FC%sb"} {
			writtenByWords(t, list(word(fmt.Sprintf(form, string([]byte{byte(c)}))), end))
		}
	}
}

func TestP15_2WriteTexts(t *testing.T) {
	for _, s := range []string{"", " ", "a", `"`, `\`, `\"`, "#", ",", "!", "a b\tc\r\n", "\x00\x1f\x7f", "\u00FC\uFFFD\U0010FFFF", `\u{41}`} {
		writes(t, list(text(s), end), wordsInQuotes(s)+"\n", api.OK)
		writes(t, list(not, text(s), comma, text(s), end), "!"+wordsInQuotes(s)+", "+wordsInQuotes(s)+"\n", api.OK)
	}
	for _, s := range illFormed {
		noWrite(t, api.ErrArg, list(text(s), end), list(text("a"+s), end), list(text(s+"a"), end), list(word("a"), end, text(s), end), list(text("\uFFFD"+s), end))
	}
}

func TestP15_2WriteTextOfNone(t *testing.T) {
	for _, kind := range []uint8{api.TokComma, api.TokNot, api.TokEnd} {
		for _, s := range []string{"a", " ", ",", "!", "\n", "\xff", "\x00"} {
			noWrite(t, api.ErrArg, list(word("a"), api.Token{Kind: kind, Text: s}, end), list(word("a"), api.Token{Kind: kind, Text: s}))
		}
	}
	noWrite(t, api.ErrArg, list(api.Token{Kind: api.TokComma, Text: ","}, end), list(api.Token{Kind: api.TokNot, Text: "!"}, end), list(word("a"), api.Token{Kind: api.TokEnd, Text: "\n"}))
}

func TestP15_2WriteEnds(t *testing.T) {
	noWrite(t, api.ErrArg,
		list(end), list(end, end), list(end, word("a"), end), list(word("a"), end, end), list(word("a"), end, end, word("b"), end), list(end, word("a")),
		list(word("a")), list(text("")), list(comma), list(not), list(word("a"), end, word("b")), list(word("a"), end, not), list(word("a"), word("b"), comma),
	)
	for n := range 7 {
		kinds := 1
		for range n {
			kinds *= 6
		}
		for which := range kinds {
			var l []api.Token
			for range n {
				l = append(l, list(api.Token{}, word("a"), text("b"), comma, not, end)[which%6])
				which /= 6
			}
			writtenByWords(t, l)
		}
	}
}

// full is lists of tokens, of each of which the lines come to n bytes in all; n is above 40.
func full(n int) [][]api.Token {
	many := list(text("\x1f\""), not, comma, end) // 14 bytes
	for range (n - 40) / 2 {
		many = append(many, comma, end)
	}
	many = append(many, word(long("w", n-14-(n-40)/2*2-1)), end)
	return [][]api.Token{
		list(word(long("a", n-1)), end),
		list(text(long("a", n-3)), end),
		list(text(strings.Repeat(`"`, (n-3)/2)+long("a", (n-3)%2)), end),
		list(text(strings.Repeat("\x7f", (n-3)/6)+long("a", (n-3)%6)), end),
		list(word(long("a", n-4)), not, word("b"), end),
		list(word("a"), text(long("b", n-6)), comma, end),
		slices.Concat(slices.Repeat(list(not), n-1), list(end)),
		slices.Concat(slices.Repeat(list(comma), n-1), list(end)),
		slices.Concat(slices.Repeat(list(word("a")), (n-3)/2), list(word(long("b", n-1-(n-3)/2*2)), end)),
		list(word(long("a", n-19)), end, word("b"), text(long("c", 10)), comma, not, end),
		many,
	}
}

func TestP15_2WriteLong(t *testing.T) {
	for _, n := range []int{api.MaxText - 1, api.MaxText, api.MaxText + 1, api.MaxText + 2, 2 * api.MaxText} {
		for i, l := range full(n) {
			writtenByWords(t, l)
			s, e := Write(l)
			if n > api.MaxText && (s != "" || e != api.ErrLong) || n <= api.MaxText && (len(s) != n || e != api.OK) {
				t.Errorf("list %d for %d bytes: %d bytes, %v", i, n, len(s), e)
			}
		}
	}
	for _, n := range []int{api.MaxText, api.MaxText + 1, 1 << 20} {
		noWrite(t, api.ErrLong, list(word(long("a", n)), end), list(text(long("a", n)), end), list(text(long("\x00", n)), end), list(text(long("\u00FC", n-n%2)), end))
	}
}

func TestP15_2WriteSeveral(t *testing.T) {
	tooLong := text(long("a", api.MaxText))
	noWrite(t, api.ErrArg,
		list(tooLong), list(tooLong, end, end), list(end, tooLong, end), list(tooLong, end, word("b")), list(tooLong, api.Token{}, end), list(tooLong, word("a b"), end), list(tooLong, text("\xff"), end), list(tooLong, api.Token{Kind: api.TokComma, Text: "a"}, end),
		list(word(long("a", api.MaxText)+" "), end), list(text(long("a", api.MaxText)+"\xff"), end), slices.Repeat(list(not), 1<<17),
	)
}

func TestP15_2LineAndAtAreNotLookedAt(t *testing.T) {
	l := list(word("a"), not, text("b c"), comma, word("d"), end, word("e"), end)
	want, e := Write(l)
	if want != "a !\"b c\", d\ne\n" || e != api.OK {
		t.Errorf("%q %v", want, e)
	}
	for _, place := range []int{-1 << 63, -1, 0, 1, 7, api.MaxText + 1, 1<<63 - 1} {
		for _, other := range []int{-5, 0, 3, 1<<63 - 1} {
			moved := slices.Clone(l)
			for i := range moved {
				moved[i].Line, moved[i].At = place-i, other
			}
			writes(t, moved, want, api.OK)
		}
	}
}

// anyTokens is tokens of all kinds, most of them such as may be written; the same seed picks the same.
func anyTokens(seed uint64) []api.Token {
	var l []api.Token
	for i := range seed % 23 {
		which := picked(seed*23+i, 1, []string{"w", "w", "w", "t", "t", ",", "!", "\n", "\n", "?"})
		s := picked(seed*29+i, int(i%4), bits)
		switch which {
		case "w":
			l = append(l, word(picked(seed+i, 1, []string{"a", "allow", "\\", "1-9", "\u00FC", "\\u{41}", "b", s})))
		case "t":
			l = append(l, text(utf.Clean(s)))
		case ",":
			l = append(l, comma)
		case "!":
			l = append(l, not)
		case "\n":
			if len(l) > 0 && l[len(l)-1] != end {
				l = append(l, end)
			}
		case "?":
			if seed%9 == 1 {
				l = append(l, api.Token{Kind: uint8(i % 7), Text: s, Line: int(i), At: int(seed)})
			}
		}
	}
	if len(l) > 0 && l[len(l)-1] != end {
		l = append(l, end)
	}
	return l
}

func TestP15_2ByTheWords(t *testing.T) {
	well := 0
	for seed := range uint64(60000) {
		l := anyTokens(seed)
		writtenByWords(t, l)
		if _, e := Write(l); e == api.OK {
			well++
		}
	}
	if well < 20000 {
		t.Errorf("%d lists may be written: too few to hold Write to anything", well)
	}
}

func TestP15_3ThereAndBack(t *testing.T) {
	for _, l := range [][]api.Token{
		nil,
		list(word("a"), end),
		list(text(""), end),
		list(not, not, comma, comma, end, comma, not, end),
		list(text("a"), text("b"), word("c"), text("\"\\\x00\x1f\x7f\r\n\t#,! "), end),
		list(word("\\"), text("\\"), word("\\u{41}"), text("\\u{41}"), end),
		list(word("\uFFFD"), text("\uFFFD\U0010FFFF"), end),
	} {
		thereAndBack(t, l)
	}
	for seed := range uint64(3000) {
		if l, f := Lex(picked(seed, int(seed%50), goodBits)); f == (api.Fault{}) {
			thereAndBack(t, l)
		}
	}
}

func TestP15_3TextsThereAndBack(t *testing.T) {
	texts(3, bits[20:], func(s string) {
		if !utf.Valid(s) {
			return
		}
		q, e := Quote(s)
		l, f := Lex(q)
		if e != api.OK || f != (api.Fault{}) || len(l) != 2 || l[0] != (api.Token{Kind: 2, Text: s, Line: 1}) || l[1] != (api.Token{Kind: 5, Line: 1, At: len(q)}) {
			t.Errorf("%q: %q, %v, %v, %v", s, q, e, l, f)
		}
	})
}

func TestP15_3WrittenTwiceIsTheSame(t *testing.T) {
	for seed := range uint64(3000) {
		l, f := Lex(picked(seed, int(seed%50), goodBits))
		if f != (api.Fault{}) {
			continue
		}
		once, _ := Write(l)
		again, _ := Lex(once)
		if twice, e := Write(again); twice != once || e != api.OK {
			t.Errorf("%q: %q, %v", once, twice, e)
		}
	}
}

func TestP15_3WhereATokenStands(t *testing.T) {
	well := 0
	for seed := range uint64(5000) {
		s := picked(seed, int(seed%60), goodBits)
		stand(t, s)
		if l, _ := Lex(s); len(l) > 0 {
			well++
		}
	}
	if well < 2000 {
		t.Errorf("%d texts are read: too few", well)
	}
}

// TestP15_3NoTokensOfWhatIsRefused has good lines around one that is not.
func TestP15_3NoTokensOfWhatIsRefused(t *testing.T) {
	for _, bad := range []string{"\x01", "\xff", `"`, `"\q"`, `a "b`, "# \x7f", "a\rb"} {
		for n := range 5 {
			s := strings.Repeat("allow \"x\", !y\n", n) + bad + "\nallow any\n"
			if l, f := Lex(s); len(l) != 0 || f.Err == api.OK || f.Line != n+1 {
				t.Errorf("%q: %v %v", s, l, f)
			}
		}
	}
	if l, f := Lex(long("allow any\n", api.MaxText+1)); len(l) != 0 || f != (api.Fault{Err: api.ErrLong}) {
		t.Errorf("above the limit: %v %v", l, f)
	}
}

func TestP15_3ArgumentsStay(t *testing.T) {
	for seed := range uint64(2000) {
		l := anyTokens(seed)
		for i := range l {
			l[i].Line, l[i].At = i, -i
		}
		room := append(slices.Clone(l), word("behind"), word("it"))
		before := slices.Clone(room)
		Write(room[:len(l)])
		if !slices.Equal(room, before) {
			t.Fatalf("%v became %v", before, room)
		}
	}
}

func TestP15_3AnswersStay(t *testing.T) {
	s := "allow \"b\\u{fc}\", !c # d\nx\r\n"
	first, _ := Lex(s)
	kept := slices.Clone(first)
	w, _ := Write(first)
	q, _ := Quote(s)
	keptWritten, keptQuoted := strings.Clone(w), strings.Clone(q)
	for seed := range uint64(500) {
		other, _ := Lex(picked(seed, 30, goodBits))
		for i := range other {
			other[i] = word("z")
		}
		Write(anyTokens(seed))
		Quote(picked(seed, 9, goodBits))
	}
	again, f := Lex(s)
	if !slices.Equal(first, kept) || !slices.Equal(again, kept) || f != (api.Fault{}) || w != keptWritten || q != keptQuoted {
		t.Errorf("%v, %v, %v, %q, %q", first, again, f, w, q)
	}
	again[0].Text = "other"
	_ = append(again[:1], word("z"))
	if third, _ := Lex(s); !slices.Equal(third, kept) || !slices.Equal(first, kept) {
		t.Errorf("%v, %v", third, first)
	}
}

func TestP15_3AnswersAreNew(t *testing.T) {
	s := "allow \"text of it\" word, \"with \\\"\"\n"
	l, _ := Lex(s)
	for _, x := range l {
		if inside(x.Text, s) {
			t.Errorf("%q is memory of what was handed in", x.Text)
		}
	}
	w, _ := Write(l)
	q, _ := Quote(s)
	for _, x := range l {
		if inside(w, x.Text) || inside(x.Text, w) {
			t.Errorf("%q is memory of what was handed in", w)
		}
	}
	if inside(q, s) {
		t.Errorf("%q is memory of what was handed in", q)
	}
}

func TestP15_1LinesMayBeLeftEarly(t *testing.T) {
	for number, line := range lines("a\r\nb\nc") {
		if number > 2 {
			t.Errorf("line %d, %q, was told behind the one that was the last asked for", number, line)
		}
		if line == "b" {
			break
		}
	}
}
