package rule

import (
	"slices"
	"strconv"

	"portcullis/api"
	"portcullis/host"
	"portcullis/lex"
	"portcullis/skel"
)

// Text answers the lines of these rules.
func Text(l []api.Rule) (string, api.Errno) {
	switch {
	case len(l) > api.MaxRules:
		return "", api.ErrFull
	case slices.ContainsFunc(l, func(r api.Rule) bool { return !May(r) }):
		return "", api.ErrArg
	}
	var out []api.Token
	for _, r := range l {
		out = append(out, line(r)...)
	}
	return lex.Write(out)
}

// line answers the tokens of a rule's line.
func line(r api.Rule) []api.Token {
	verdict := deny
	if r.Allow {
		verdict = allow
	}
	out := []api.Token{word(verdict)}
	for _, c := range r.Conds {
		if c.Not {
			out = append(out, sign(api.TokNot))
		}
		out = append(out, word(words[c.Kind]))
		out = append(out, needed(c)...)
	}
	return append(out, sign(api.TokEnd))
}

// needed answers what stands behind a condition's word.
func needed(c api.Cond) []api.Token {
	switch c.Kind {
	case api.CondHost, api.CondUnder, api.CondLike:
		return []api.Token{name(host.Text(c.Host))}
	case api.CondNet:
		return []api.Token{word(host.Text(c.Host) + slash + strconv.Itoa(int(c.Bits)))}
	case api.CondScripts:
		return list(c.Scripts, skel.Name)
	case api.CondLevel:
		return []api.Token{word(levels[c.Level])}
	case api.CondPorts:
		return list(c.Ports, portsText)
	}
	return nil
}

func word(s string) api.Token { return api.Token{Kind: api.TokWord, Text: s} }

func sign(kind uint8) api.Token { return api.Token{Kind: kind} }

// name answers a name as a word, if it is one, else as a text.
func name(s string) api.Token {
	t := word(s)
	if _, e := lex.Write([]api.Token{t, sign(api.TokEnd)}); e != api.OK {
		t.Kind = api.TokText
	}
	return t
}

// list answers the words of these parts, with commas between.
func list[P any](parts []P, text func(p P) string) []api.Token {
	var out []api.Token
	for i, p := range parts {
		if i > 0 {
			out = append(out, sign(api.TokComma))
		}
		out = append(out, word(text(p)))
	}
	return out
}

// portsText writes ports that are one as one.
func portsText(p api.Ports) string {
	first := strconv.Itoa(int(p.From))
	if p.From == p.To {
		return first
	}
	return first + minus + strconv.Itoa(int(p.To))
}
