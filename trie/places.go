package trie

import (
	"slices"
	"strings"

	"portcullis/api"
	"portcullis/shown"
	"portcullis/skel"
)

const (
	dot = "."

	// whole stands behind a name's first label, on the way from the last one on. No label is empty, so that what ends there is of that very name alone.
	whole = ""
)

// Bits of an address, and of one piece of IPv6.
const (
	fourBits  = 32
	sixBits   = 128
	pieceBits = 16
)

// ends is which rules have a condition that ends at a place: as often as they have.
type ends []int

// places is all of them: names, looks of names, addresses.
type places struct {
	names     *name
	looks     map[string]ends // by skeletons
	four, six address
}

func newPlaces() *places {
	return &places{names: newName(), looks: map[string]ends{}}
}

// put notes a rule where a condition of it ends; not done, if that ends nowhere: whether it holds makes no rule less of a candidate.
func (p *places) put(rule int, c api.Cond) (done bool) {
	switch {
	case c.Not:
		return false
	case c.Kind == api.CondUnder:
		p.names.put(rule, upTo(c.Host.Name))
	case c.Kind == api.CondLike:
		look := lookOf(c.Host)
		p.looks[look] = append(p.looks[look], rule)
	case c.Kind == api.CondNet:
		p.addresses(c.Host).put(rule, c.Host, int(c.Bits))
	case c.Kind != api.CondHost:
		return false
	case c.Host.Kind == api.Domain:
		p.names.put(rule, through(c.Host.Name))
	default:
		p.addresses(c.Host).put(rule, c.Host, widthOf(c.Host))
	}
	return true
}

// tell hands over what ends at each place on the way to a host.
func (p *places) tell(h api.Host, to func(l ends)) {
	if h.Kind == api.Domain {
		p.names.tell(through(h.Name), to)
		to(p.looks[lookOf(h)])
		return
	}
	p.addresses(h).tell(h, to)
}

// lookOf answers what a domain looks like.
func lookOf(h api.Host) string { return skel.Skeleton(shown.Form(h)) }

// addresses answers where the addresses of this one's kind begin.
func (p *places) addresses(h api.Host) *address {
	if h.Kind == api.Four {
		return &p.four
	}
	return &p.six
}

// name is the end of a name, up to one of its dots, or all of it.
type name struct {
	ends
	labels map[string]*name // what stands ahead of it
}

func newName() *name { return &name{labels: map[string]*name{}} }

// upTo answers the way to a name, and to all that are below it: its labels, from the last one on.
func upTo(domain string) []string {
	l := strings.Split(domain, dot)
	slices.Reverse(l)
	return l
}

// through answers the way to a name, and on to the place that is of nothing else.
func through(domain string) []string { return append(upTo(domain), whole) }

func (n *name) put(rule int, way []string) {
	for _, label := range way {
		if n.labels[label] == nil {
			n.labels[label] = newName()
		}
		n = n.labels[label]
	}
	n.ends = append(n.ends, rule)
}

func (n *name) tell(way []string, to func(l ends)) {
	for _, label := range way {
		n = n.labels[label]
		if n == nil {
			return
		}
		to(n.ends)
	}
}

// address is the first bits of addresses, or all of one.
type address struct {
	ends
	bits [2]*address // what stands behind them
}

func widthOf(h api.Host) int {
	if h.Kind == api.Four {
		return fourBits
	}
	return sixBits
}

// bit answers one bit of an address, of which the highest one is number 0.
func bit(h api.Host, number int) int {
	if h.Kind == api.Four {
		return int(h.Four >> (fourBits - 1 - number) & 1)
	}
	piece := h.Six[number/pieceBits]
	return int(piece >> (pieceBits - 1 - number%pieceBits) & 1)
}

func (a *address) put(rule int, h api.Host, bits int) {
	for number := range bits {
		next := &a.bits[bit(h, number)]
		if *next == nil {
			*next = &address{}
		}
		a = *next
	}
	a.ends = append(a.ends, rule)
}

func (a *address) tell(h api.Host, to func(l ends)) {
	to(a.ends)
	for number := range widthOf(h) {
		a = a.bits[bit(h, number)]
		if a == nil {
			return
		}
		to(a.ends)
	}
}
