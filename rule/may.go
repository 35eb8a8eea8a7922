package rule

import (
	"slices"

	"portcullis/api"
	"portcullis/canon"
)

// Bits of an address, and of one piece of IPv6.
const (
	fourBits  = 32
	sixBits   = 128
	pieceBits = 16
)

// May tells whether r is a rule that Parse may answer.
func May(r api.Rule) bool {
	many := len(r.Conds)
	return many >= 1 && many <= api.MaxConds && !slices.ContainsFunc(r.Conds, isWrong)
}

// isWrong tells whether a condition may not be. What its kind has is looked at and taken out of the copy: nothing is left then.
func isWrong(c api.Cond) bool {
	fits := false
	switch c.Kind {
	case api.CondAny:
		fits = true
	case api.CondHost:
		fits, c.Host = isCanonical(c.Host), api.Host{}
	case api.CondUnder, api.CondLike:
		fits, c.Host = c.Host.Kind == api.Domain && isCanonical(c.Host), api.Host{}
	case api.CondNet:
		fits = isNet(c.Host, int(c.Bits)) && isCanonical(c.Host)
		c.Host, c.Bits = api.Host{}, 0
	case api.CondScripts:
		fits, c.Scripts = isList(c.Scripts) && areScripts(c.Scripts), nil
	case api.CondLevel:
		fits, c.Level = c.Level >= api.LevelASCII && c.Level <= api.LevelAny, 0
	case api.CondPorts:
		fits, c.Ports = isList(c.Ports) && !slices.ContainsFunc(c.Ports, notPorts), nil
	}
	return !fits || hasMore(c)
}

// hasMore tells whether a condition has anything beside its kind.
func hasMore(c api.Cond) bool {
	none := api.Host{}
	return c.Host != none || c.Bits != 0 || len(c.Scripts) > 0 || c.Level != 0 || len(c.Ports) > 0
}

func isCanonical(h api.Host) bool {
	again, e := canon.Host(h)
	return e == api.OK && again == h
}

// isNet tells whether h is an address that has no bits set behind its first ones.
func isNet(h api.Host, bits int) bool {
	switch h.Kind {
	case api.Four:
		return bits <= fourBits && h.Four<<bits == 0
	case api.Six:
		for i, piece := range h.Six {
			if piece<<max(bits-i*pieceBits, 0) != 0 {
				return false
			}
		}
		return bits <= sixBits
	}
	return false
}

// isList tells whether these are as many as a condition may have.
func isList[P any](parts []P) bool { return len(parts) >= 1 && len(parts) <= api.MaxParts }

// areScripts tells whether these are scripts, rising.
func areScripts(l []uint8) bool {
	for i, script := range l {
		if !isScript(script) || i > 0 && script <= l[i-1] {
			return false
		}
	}
	return true
}

// isScript leaves out those that go with any, and numbers that are none.
func isScript(script uint8) bool { return script >= api.Latin && script <= api.Deseret }

func arePorts(p api.Ports) bool { return p.From != 0 && p.From <= p.To }

func notPorts(p api.Ports) bool { return !arePorts(p) }
