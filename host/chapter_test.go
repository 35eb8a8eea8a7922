package host

import (
	"fmt"
	"math/rand/v2"
	"strings"
	"testing"

	"portcullis/api"
	"portcullis/four"
	"portcullis/idna"
	"portcullis/pct"
	"portcullis/six"
)

// What the chapter's words say, done word by word and slowly, so that the tests hold the program to the text.

// isForbidden and isForbiddenInDomain tell it of each byte, by its number or its sign.
var isForbidden, isForbiddenInDomain = func() (all, domain [256]bool) {
	for _, b := range []byte{0, 9, 10, 13, ' ', '#', '/', ':', '<', '>', '?', '@', '[', '\\', ']', '^', '|'} {
		all[b], domain[b] = true, true
	}
	for b := range 32 {
		domain[b] = true
	}
	domain['%'], domain[127] = true, true
	return all, domain
}()

// has tells whether one of these bytes is in s.
func has(s string, these [256]bool) bool {
	for i := range len(s) {
		if these[s[i]] {
			return true
		}
	}
	return false
}

func wordsParse(s string, special bool) (api.Host, api.Errno) {
	if len(s) > 4096 {
		return api.Host{}, api.ErrLong
	}
	if s != "" && s[0] == '[' {
		if s[len(s)-1] != ']' {
			return api.Host{}, api.ErrHost
		}
		a, e := six.Parse(s[1 : len(s)-1])
		if e != api.OK {
			return api.Host{}, api.ErrHost
		}
		return api.Host{Kind: 3, Six: a}, api.OK
	}
	if !special {
		if has(s, isForbidden) {
			return api.Host{}, api.ErrHost
		}
		if s == "" {
			return api.Host{}, api.OK
		}
		return api.Host{Kind: 4, Name: pct.Encode(s, api.SetControl)}, api.OK
	}
	name, e := idna.ASCII(pct.Decode(s), false, false)
	if e != api.OK {
		return api.Host{}, api.ErrHost
	}
	if name == "" {
		return api.Host{}, api.ErrHost
	}
	if has(name, isForbiddenInDomain) {
		return api.Host{}, api.ErrHost
	}
	if !four.Ends(name) {
		return api.Host{Kind: 1, Name: name}, api.OK
	}
	a, e := four.Parse(name)
	if e != api.OK {
		return api.Host{}, api.ErrHost
	}
	return api.Host{Kind: 2, Four: a}, api.OK
}

func wordsText(h api.Host) string {
	if h.Kind == 1 || h.Kind == 4 {
		return h.Name
	}
	if h.Kind == 2 {
		return fmt.Sprintf("%d.%d.%d.%d", h.Four>>24, h.Four>>16&255, h.Four>>8&255, h.Four&255)
	}
	if h.Kind == 3 {
		return "[" + six.Text(h.Six) + "]"
	}
	return ""
}

func wordsMay(h api.Host) bool {
	if h.Kind == 0 && h.Name == "" && h.Four == 0 && h.Six == [8]uint16{} {
		return true
	}
	s := wordsText(h)
	if len(s) > 4096 {
		return false
	}
	again, e := wordsParse(s, h.Kind != 4)
	return e == api.OK && again.Kind == h.Kind && again.Name == h.Name && again.Four == h.Four && again.Six == h.Six
}

// byWords holds all calls on s, special and not, to the chapter's words, and to what follows from them.
func byWords(t *testing.T, s string) {
	t.Helper()
	for _, special := range []bool{true, false} {
		h, e := wordsParse(s, special)
		parsed(t, s, special, h, e)
		told(t, h)
		if e == api.OK && May(h) {
			parsed(t, Text(h), special, h, api.OK)
		}
	}
}

// told holds Text and May of h to the chapter's words.
func told(t *testing.T, h api.Host) {
	t.Helper()
	text(t, h, wordsText(h))
	may(t, wordsMay(h), h)
}

// parsed holds Parse to what it must answer.
func parsed(t *testing.T, s string, special bool, want api.Host, e api.Errno) {
	t.Helper()
	if got, err := Parse(s, special); got != want || err != e {
		t.Errorf("Parse(%.90q, %v): %.90s, %v, not %.90s, %v", s, special, shown(got), err, shown(want), e)
	}
}

// shown is h as a failing test tells it.
func shown(h api.Host) string {
	return fmt.Sprintf("%d %q %x %x", h.Kind, h.Name, h.Four, h.Six)
}

// refused holds Parse of each, special or not, to ErrHost.
func refused(t *testing.T, special bool, list ...string) {
	t.Helper()
	for _, s := range list {
		parsed(t, s, special, api.Host{}, api.ErrHost)
	}
}

// text holds Text to what it must answer.
func text(t *testing.T, h api.Host, want string) {
	t.Helper()
	if got := Text(h); got != want {
		t.Errorf("Text(%.90s): %.90q, not %.90q", shown(h), got, want)
	}
}

// may holds May of each to what it must answer.
func may(t *testing.T, want bool, list ...api.Host) {
	t.Helper()
	for _, h := range list {
		if May(h) != want {
			t.Errorf("May(%.90s): not %v", shown(h), want)
		}
	}
}

func domain(name string) api.Host { return api.Host{Kind: api.Domain, Name: name} }

func opaque(name string) api.Host { return api.Host{Kind: api.Opaque, Name: name} }

func fourOf(a uint32) api.Host { return api.Host{Kind: api.Four, Four: a} }

func sixOf(a ...uint16) api.Host {
	h := api.Host{Kind: api.Six}
	copy(h.Six[:], a)
	return h
}

// byPercent is s with each byte told by a percent sign.
func byPercent(s string) string {
	var b strings.Builder
	for i := range len(s) {
		fmt.Fprintf(&b, "%%%02x", s[i])
	}
	return b.String()
}

// texts calls f with every text of at most n of these.
func texts(n int, these []string, f func(s string)) {
	var grow func(s string, left int)
	grow = func(s string, left int) {
		f(s)
		if left == 0 {
			return
		}
		for _, one := range these {
			grow(s+one, left-1)
		}
	}
	grow("", n)
}

// picked is a text of n of these; the same seed picks the same.
func picked(seed uint64, n int, these []string) string {
	pick := rand.New(rand.NewPCG(seed, 12))
	var b strings.Builder
	for range n {
		b.WriteString(these[pick.IntN(len(these))])
	}
	return b.String()
}
