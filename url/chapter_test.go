package url

import (
	"fmt"
	"math/rand/v2"
	"reflect"
	"regexp"
	"slices"
	"strconv"
	"strings"
	"testing"

	"portcullis/api"
	"portcullis/host"
	"portcullis/pct"
	"portcullis/utf"
)

// What the chapter's words say, done word by word and slowly, so that the tests hold the program to the text.

// ports is the special schemes, and their ports.
var ports = map[string]uint16{"http": 80, "https": 443, "ws": 80, "wss": 443, "ftp": 21}

// schemes is the same, in some order, and some that are not special.
var schemes, otherSchemes = []string{"http", "https", "ws", "wss", "ftp"}, []string{"foo", "a", "gopher", "x+y-z.0"}

// The forms of what follows the scheme, each with the authority, the path or the opaque path, the query and the fragment.
var (
	schemeForm    = regexp.MustCompile(`(?s)^([A-Za-z][A-Za-z0-9+.-]*):(.*)$`)
	specialForm   = regexp.MustCompile(`(?s)^[/\\]*([^/\\?#]*)([^?#]*)(\?[^#]*)?(#.*)?$`)
	authorityForm = regexp.MustCompile(`(?s)^//([^/?#]*)([^?#]*)(\?[^#]*)?(#.*)?$`)
	pathForm      = regexp.MustCompile(`(?s)^()(/[^?#]*)(\?[^#]*)?(#.*)?$`)
	opaqueForm    = regexp.MustCompile(`(?s)^()([^?#]*)(\?[^#]*)?(#.*)?$`)
	userForm      = regexp.MustCompile(`(?s)^([^:]*):?(.*)$`)
	hostForm      = regexp.MustCompile(`(?s)^((?:[^:\[]|\[[^\]]*\]|\[[^\]]*$)*)(:.*)?$`)
	digitsForm    = regexp.MustCompile(`^:0*([0-9]*)$`)
	oneDot        = regexp.MustCompile(`^(\.|%2[eE])$`)
	twoDots       = regexp.MustCompile(`^(\.|%2[eE])(\.|%2[eE])$`)
)

func wordsTidy(s string) string {
	l := utf.Decode(s)
	for len(l) > 0 && l[0] <= 0x20 {
		l = l[1:]
	}
	for len(l) > 0 && l[len(l)-1] <= 0x20 {
		l = l[:len(l)-1]
	}
	return string(slices.DeleteFunc(l, func(c rune) bool { return c == 9 || c == 0xA || c == 0xD }))
}

func wordsParse(s string) (api.Url, api.Errno) {
	if len(s) > 4096 {
		return api.Url{}, api.ErrLong
	}
	m := schemeForm.FindStringSubmatch(wordsTidy(s))
	if m == nil || strings.EqualFold(m[1], "file") {
		return api.Url{}, api.ErrProtocol
	}
	u, rest := api.Url{Scheme: strings.ToLower(m[1])}, m[2]
	own, special := ports[u.Scheme]
	switch {
	case special:
		m, u.HasHost = specialForm.FindStringSubmatch(rest), true
	case strings.HasPrefix(rest, "//"):
		m, u.HasHost = authorityForm.FindStringSubmatch(rest), true
	case strings.HasPrefix(rest, "/"):
		m = pathForm.FindStringSubmatch(rest)
	default:
		m, u.Opaque = opaqueForm.FindStringSubmatch(rest), true
	}
	if u.HasHost {
		if e := wordsAuthority(&u, m[1], special, own); e != api.OK {
			return api.Url{}, e
		}
	}
	if u.Opaque {
		u.Body = pct.Encode(m[2], api.SetControl)
	} else if special || m[2] != "" {
		u.Path = wordsPath(m[2], special)
	}
	if m[3] != "" && special {
		u.HasQuery, u.Query = true, pct.Encode(m[3][1:], api.SetSpecial)
	} else if m[3] != "" {
		u.HasQuery, u.Query = true, pct.Encode(m[3][1:], api.SetQuery)
	}
	if m[4] != "" {
		u.HasFragment, u.Fragment = true, pct.Encode(m[4][1:], api.SetFragment)
	}
	return u, api.OK
}

func wordsAuthority(u *api.Url, s string, special bool, own uint16) api.Errno {
	if at := strings.LastIndex(s, "@"); at >= 0 {
		m := userForm.FindStringSubmatch(s[:at])
		u.User, u.Pass = pct.Encode(m[1], api.SetUser), pct.Encode(m[2], api.SetUser)
		if s = s[at+1:]; s == "" {
			return api.ErrHost
		}
	}
	m := hostForm.FindStringSubmatch(s)
	if m[1] == "" && (special || m[2] != "") {
		return api.ErrHost
	}
	var e api.Errno
	if u.Host, e = host.Parse(m[1], special); e != api.OK {
		return e
	}
	if m[2] == "" || m[2] == ":" {
		return api.OK
	}
	d := digitsForm.FindStringSubmatch(m[2])
	if d == nil || len(d[1]) > 5 {
		return api.ErrPort
	}
	n, _ := strconv.Atoi("0" + d[1])
	if n > 65535 {
		return api.ErrPort
	}
	if !special || n != int(own) {
		u.HasPort, u.Port = true, uint16(n)
	}
	return api.OK
}

// wordsPath is handed a path with its first slash, if it has one.
func wordsPath(s string, special bool) []string {
	if special {
		s = strings.ReplaceAll(s, `\`, "/")
	}
	pieces := strings.Split(strings.TrimPrefix(s, "/"), "/")
	var list []string
	for i, piece := range pieces {
		one, two := oneDot.MatchString(piece), twoDots.MatchString(piece)
		if two && len(list) > 0 {
			list = slices.Clone(list[:len(list)-1])
		}
		if !one && !two {
			list = append(list, pct.Encode(piece, api.SetPath))
		} else if i == len(pieces)-1 {
			list = append(list, "")
		}
	}
	return list
}

func wordsText(u api.Url) string {
	s := u.Scheme + ":"
	if u.HasHost {
		s += "//"
		if len(u.User)+len(u.Pass) > 0 {
			s += u.User
			if u.Pass != "" {
				s += ":" + u.Pass
			}
			s += "@"
		}
		s += host.Text(u.Host)
		if u.HasPort {
			s += fmt.Sprintf(":%d", u.Port)
		}
	} else if !u.Opaque && len(u.Path) >= 2 && u.Path[0] == "" {
		s += "/."
	}
	s += wordsPathText(u)
	if u.HasQuery {
		s += "?" + u.Query
	}
	if u.HasFragment {
		s += "#" + u.Fragment
	}
	return s
}

func wordsPathText(u api.Url) string {
	if u.Opaque {
		return u.Body
	}
	return strings.Join(append([]string{""}, u.Path...), "/")
}

// byWords holds all calls on s to the chapter's words, and to what follows from them.
func byWords(t *testing.T, s string) {
	t.Helper()
	u, e := wordsParse(s)
	parsed(t, s, u, e)
	told(t, u)
	if again := Text(u); e == api.OK && len(again) <= 4096 {
		parsed(t, again, u, api.OK)
	}
}

// told holds Text and Path of u to the chapter's words.
func told(t *testing.T, u api.Url) {
	t.Helper()
	if got, want := Text(u), wordsText(u); got != want {
		t.Errorf("Text(%s): %.200q, not %.200q", shown(u), got, want)
	}
	if got, want := Path(u), wordsPathText(u); got != want {
		t.Errorf("Path(%s): %.200q, not %.200q", shown(u), got, want)
	}
}

// same tells whether they are one URL; a list that is nil and one without elements are the same.
func same(u, v api.Url) bool {
	paths := slices.Equal(u.Path, v.Path)
	u.Path, v.Path = nil, nil
	return paths && reflect.DeepEqual(u, v)
}

// shown is u as a failing test tells it.
func shown(u api.Url) string {
	return fmt.Sprintf("%.400s", fmt.Sprintf("%+q", fmt.Sprintf("%+v", u)))
}

// parsed holds Parse to what it must answer.
func parsed(t *testing.T, s string, want api.Url, e api.Errno) {
	t.Helper()
	if got, err := Parse(s); !same(got, want) || err != e {
		t.Errorf("Parse(%.200q): %s, %v, not %s, %v", s, shown(got), err, shown(want), e)
	}
}

// refused holds Parse of each to that error, and to nothing beside it.
func refused(t *testing.T, e api.Errno, list ...string) {
	t.Helper()
	for _, s := range list {
		parsed(t, s, api.Url{}, e)
		byWords(t, s)
	}
}

// reads holds Parse of s to the URL whose text is want, and to the chapter's words.
func reads(t *testing.T, s, want string) {
	t.Helper()
	u, e := Parse(s)
	if got := Text(u); got != want || e != api.OK {
		t.Errorf("Parse(%.200q), as text: %.200q, %v, not %.200q", s, got, e, want)
	}
	byWords(t, s)
}

// readsAll holds Parse of each key to the URL whose text it maps to.
func readsAll(t *testing.T, all map[string]string) {
	t.Helper()
	for s, want := range all {
		reads(t, s, want)
	}
}

// alike holds Parse of both to one answer, be it an error.
func alike(t *testing.T, s, other string) {
	t.Helper()
	u, e := Parse(s)
	parsed(t, other, u, e)
}

// texts calls f with every text of at most n of these.
func texts(n int, these []string, f func(s string)) {
	var grow func(s string, left int)
	grow = func(s string, left int) {
		f(s)
		if left == 0 {
			return
		}
		for _, one := range these {
			grow(s+one, left-1)
		}
	}
	grow("", n)
}

// picked is a text of n of these; the same seed picks the same.
func picked(seed uint64, n int, these []string) string {
	pick := rand.New(rand.NewPCG(seed, 13))
	var b strings.Builder
	for range n {
		b.WriteString(these[pick.IntN(len(these))])
	}
	return b.String()
}
