package judge

import (
	"math/bits"
	"slices"
	"strings"

	"portcullis/api"
	"portcullis/shown"
	"portcullis/skel"
)

const (
	dot       = "."
	pieceBits = 16 // of IPv6
)

// holds takes a condition and a target that may be.
func holds(c api.Cond, s seen) bool { return asks()[c.Kind](c, s) != c.Not }

// asks answers what each kind of condition asks, whatever its Not.
func asks() [api.CondPorts + 1]func(c api.Cond, s seen) bool {
	return [...]func(c api.Cond, s seen) bool{
		api.CondAny:     always,
		api.CondHost:    isHost,
		api.CondUnder:   isUnder,
		api.CondLike:    looksLike,
		api.CondNet:     isOfNet,
		api.CondScripts: isInScripts,
		api.CondLevel:   isOfLevel,
		api.CondPorts:   isOfPorts,
	}
}

func always(api.Cond, seen) bool { return true }

func isHost(c api.Cond, s seen) bool { return s.Host == c.Host }

func isUnder(c api.Cond, s seen) bool {
	return s.Host.Kind == api.Domain && strings.HasSuffix(dot+s.Host.Name, dot+c.Host.Name)
}

func looksLike(c api.Cond, s seen) bool {
	return s.Host.Kind == api.Domain && s.skeleton == skel.Skeleton(shown.Form(c.Host))
}

func isOfNet(c api.Cond, s seen) bool {
	return s.Host.Kind == c.Host.Kind && shared(s.Host, c.Host) >= int(c.Bits)
}

// shared answers how many bits two addresses of one kind begin with alike.
func shared(a, b api.Host) int {
	if a.Kind == api.Four {
		return bits.LeadingZeros32(a.Four ^ b.Four)
	}
	for i, piece := range a.Six {
		if piece != b.Six[i] {
			return i*pieceBits + bits.LeadingZeros16(piece^b.Six[i])
		}
	}
	return len(a.Six) * pieceBits
}

func isInScripts(c api.Cond, s seen) bool {
	other := func(script uint8) bool { return !slices.Contains(c.Scripts, script) }
	return everyLabel(s, func(label string) bool { return !slices.ContainsFunc(skel.Scripts(label), other) })
}

func isOfLevel(c api.Cond, s seen) bool {
	return everyLabel(s, func(label string) bool { return skel.Level(label) <= c.Level })
}

// everyLabel tells whether the target is a domain all of whose labels fit.
func everyLabel(s seen, fits func(label string) bool) bool {
	for label := range strings.SplitSeq(s.form, dot) {
		if !fits(label) {
			return false
		}
	}
	return s.Host.Kind == api.Domain
}

func isOfPorts(c api.Cond, s seen) bool {
	return slices.ContainsFunc(c.Ports, func(p api.Ports) bool { return p.From <= s.Port && s.Port <= p.To })
}
