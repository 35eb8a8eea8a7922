package canon

import (
	"fmt"
	"math/rand/v2"
	"regexp"
	"strconv"
	"strings"
	"testing"
	"unsafe"

	"portcullis/api"
	"portcullis/host"
	"portcullis/url"
)

// What the chapter's words say, done word by word and slowly, so that the tests hold the program to the text.

// schemePorts is the schemes that are taken, and their ports.
var schemePorts = map[string]uint16{"http": 80, "https": 443}

// The forms of a canonical domain's labels, of bytes that no authority has, of an authority that is cut, and of a port.
var (
	labelsForm = regexp.MustCompile(`^[^.]{1,63}(\.[^.]{1,63})*$`)
	blankForm  = regexp.MustCompile(`[\x00-\x20\x7f]`)
	cutForm    = regexp.MustCompile(`(?s)^(.*):([^:\]]*)$`)
	portForm   = regexp.MustCompile(`^[0-9]{1,5}$`)
)

func wordsHost(h api.Host) (api.Host, api.Errno) {
	if !host.May(h) || h.Kind == 4 || h == (api.Host{}) {
		return api.Host{}, api.ErrHost
	}
	if h.Kind == 2 || h.Kind == 3 {
		return h, api.OK
	}
	name := h.Name
	if name[len(name)-1] == '.' {
		name = name[:len(name)-1]
	}
	if len(name) > 253 || !labelsForm.MatchString(name) {
		return api.Host{}, api.ErrHost
	}
	return api.Host{Kind: 1, Name: name}, api.OK
}

func wordsAbsolute(s string) (api.Target, api.Errno) {
	u, e := url.Parse(s)
	if e != api.OK {
		return api.Target{}, e
	}
	port, taken := schemePorts[u.Scheme]
	if !taken {
		return api.Target{}, api.ErrProtocol
	}
	if len(u.User)+len(u.Pass) > 0 {
		return api.Target{}, api.ErrUser
	}
	h, e := wordsHost(u.Host)
	if e != api.OK {
		return api.Target{}, e
	}
	if u.HasPort {
		port = u.Port
	}
	if port == 0 {
		return api.Target{}, api.ErrPort
	}
	return api.Target{Host: h, Port: port}, api.OK
}

func wordsAuthority(s string, port uint16) (api.Target, api.Errno) {
	if len(s) > 4096 {
		return api.Target{}, api.ErrLong
	}
	if blankForm.MatchString(s) {
		return api.Target{}, api.ErrHost
	}
	if strings.Count(s, "@") > 0 {
		return api.Target{}, api.ErrUser
	}
	name := s
	m := cutForm.FindStringSubmatch(s)
	if m != nil {
		name = m[1]
	}
	h, e := host.Parse(name, true)
	if e != api.OK {
		return api.Target{}, api.ErrHost
	}
	if h, e = wordsHost(h); e != api.OK {
		return api.Target{}, api.ErrHost
	}
	if m == nil && port == 0 {
		return api.Target{}, api.ErrNone
	}
	if m == nil {
		return api.Target{Host: h, Port: port}, api.OK
	}
	n, _ := strconv.Atoi(m[2])
	if !portForm.MatchString(m[2]) || n < 1 || n > 65535 {
		return api.Target{}, api.ErrPort
	}
	return api.Target{Host: h, Port: uint16(n)}, api.OK
}

func wordsText(t api.Target) string {
	return fmt.Sprintf("%s:%d", host.Text(t.Host), t.Port)
}

func wordsMay(t api.Target) bool {
	h, e := wordsHost(t.Host)
	return e == api.OK && h.Kind == t.Host.Kind && h.Name == t.Host.Name && h.Four == t.Host.Four && h.Six == t.Host.Six && t.Port > 0
}

// byWords holds Absolute and Authority of s to the chapter's words, and what they answer to what follows from them.
func byWords(t *testing.T, s string) {
	t.Helper()
	want, e := wordsAbsolute(s)
	absolute(t, s, want, e)
	told(t, want)
	for _, port := range []uint16{0, 1, 443, 65535} {
		want, e = wordsAuthority(s, port)
		authority(t, s, port, want, e)
		told(t, want)
	}
}

// hostByWords holds Host of h to the chapter's words; what it answers is canonical, and told so.
func hostByWords(t *testing.T, h api.Host) {
	t.Helper()
	want, e := wordsHost(h)
	canonical(t, h, want, e)
	if e == api.OK {
		canonical(t, want, want, api.OK)
		told(t, api.Target{Host: want, Port: 80})
	}
	told(t, api.Target{Host: h, Port: 80})
	told(t, api.Target{Host: h})
}

// told holds Text and May of x to the chapter's words; one that may be is read as itself from its text.
func told(t *testing.T, x api.Target) {
	t.Helper()
	if got, want := Text(x), wordsText(x); got != want {
		t.Errorf("Text(%s): %.90q, not %.90q", shown(x), got, want)
	}
	if got, want := May(x), wordsMay(x); got != want {
		t.Errorf("May(%s): %v", shown(x), got)
	}
	if wordsMay(x) {
		thereAndBack(t, x)
	}
}

// thereAndBack holds Authority and Absolute of the text of x to x.
func thereAndBack(t *testing.T, x api.Target) {
	t.Helper()
	authority(t, Text(x), 0, x, api.OK)
	authority(t, Text(x), 9, x, api.OK)
	absolute(t, "http://"+Text(x), x, api.OK)
}

// canonical holds Host to what it must answer.
func canonical(t *testing.T, h, want api.Host, e api.Errno) {
	t.Helper()
	if got, err := Host(h); got != want || err != e {
		t.Errorf("Host(%s): %s, %v, not %s, %v", shownHost(h), shownHost(got), err, shownHost(want), e)
	}
}

// absolute holds Absolute to what it must answer.
func absolute(t *testing.T, s string, want api.Target, e api.Errno) {
	t.Helper()
	if got, err := Absolute(s); got != want || err != e {
		t.Errorf("Absolute(%.200q): %s, %v, not %s, %v", s, shown(got), err, shown(want), e)
	}
}

// authority holds Authority to what it must answer.
func authority(t *testing.T, s string, port uint16, want api.Target, e api.Errno) {
	t.Helper()
	if got, err := Authority(s, port); got != want || err != e {
		t.Errorf("Authority(%.200q, %d): %s, %v, not %s, %v", s, port, shown(got), err, shown(want), e)
	}
}

// noHost holds Host of each to ErrHost.
func noHost(t *testing.T, list ...api.Host) {
	t.Helper()
	for _, h := range list {
		canonical(t, h, api.Host{}, api.ErrHost)
	}
}

// noAbsolute holds Absolute of each to that error, and to nothing beside it.
func noAbsolute(t *testing.T, e api.Errno, list ...string) {
	t.Helper()
	for _, s := range list {
		absolute(t, s, api.Target{}, e)
	}
}

// noAuthority holds Authority of each, with that port, to that error, and to nothing beside it.
func noAuthority(t *testing.T, e api.Errno, port uint16, list ...string) {
	t.Helper()
	for _, s := range list {
		authority(t, s, port, api.Target{}, e)
	}
}

// may holds May of each to what it must answer.
func may(t *testing.T, want bool, list ...api.Target) {
	t.Helper()
	for _, x := range list {
		if May(x) != want {
			t.Errorf("May(%s): not %v", shown(x), want)
		}
	}
}

// shownHost and shown are what a failing test tells.
func shownHost(h api.Host) string {
	return fmt.Sprintf("%d %.90q %x %x", h.Kind, h.Name, h.Four, h.Six)
}

func shown(x api.Target) string { return fmt.Sprintf("%s port %d", shownHost(x.Host), x.Port) }

func named(name string) api.Host { return api.Host{Kind: api.Domain, Name: name} }

func opaque(name string) api.Host { return api.Host{Kind: api.Opaque, Name: name} }

func fourOf(a uint32) api.Host { return api.Host{Kind: api.Four, Four: a} }

func sixOf(a ...uint16) api.Host {
	h := api.Host{Kind: api.Six}
	copy(h.Six[:], a)
	return h
}

func at(h api.Host, port uint16) api.Target { return api.Target{Host: h, Port: port} }

// long is a row of these, of so many bytes.
func long(s string, to int) string { return strings.Repeat(s, to/len(s)+1)[:to] }

// nameOf is a name of n bytes, n from 193 to 255, of four labels, of which the last one is the shortest.
func nameOf(n int) string {
	return strings.Repeat(long("a", 63)+".", 3) + long("b", n-192)
}

// byPercent is s with each byte told by a percent sign.
func byPercent(s string) string {
	var b strings.Builder
	for i := range len(s) {
		fmt.Fprintf(&b, "%%%02x", s[i])
	}
	return b.String()
}

// wide is s with its letters, digits, hyphens and dots as wide ones.
func wide(s string) string {
	return strings.Map(func(c rune) rune {
		if c > ' ' && c < 0x7F {
			return c - '!' + 0xFF01
		}
		return c
	}, s)
}

// inside tells whether part is memory of s.
func inside(part, s string) bool {
	a, b := uintptr(unsafe.Pointer(unsafe.StringData(part))), uintptr(unsafe.Pointer(unsafe.StringData(s)))
	return part != "" && s != "" && a >= b && a < b+uintptr(len(s))
}

// texts calls f with every text of at most n of these.
func texts(n int, these []string, f func(s string)) {
	var grow func(s string, left int)
	grow = func(s string, left int) {
		f(s)
		if left == 0 {
			return
		}
		for _, one := range these {
			grow(s+one, left-1)
		}
	}
	grow("", n)
}

// picked is a text of n of these; the same seed picks the same.
func picked(seed uint64, n int, these []string) string {
	pick := rand.New(rand.NewPCG(seed, 14))
	var b strings.Builder
	for range n {
		b.WriteString(these[pick.IntN(len(these))])
	}
	return b.String()
}
