package url

import "strings"

// place tells where a text is to be cut, ahead of a sign of one byte; -1, if nowhere.
type place func(s string) int

// first is where the first of these signs stands.
func first(signs string) place {
	return func(s string) int { return strings.IndexAny(s, signs) }
}

// last is where the last of these signs stands.
func last(signs string) place {
	return func(s string) int { return strings.LastIndexAny(s, signs) }
}

// firstOutside is where the first of these signs stands that is not in brackets, shut or not.
func firstOutside(signs string) place {
	return func(s string) int {
		inside := false
		return strings.IndexFunc(s, func(c rune) bool {
			switch c {
			case '[':
				inside = true
			case ']':
				inside = false
			}
			return !inside && strings.ContainsRune(signs, c)
		})
	}
}

// cut answers what of s is ahead of that place, and the rest from there on.
func cut(s string, where place) (ahead, rest string) {
	at := where(s)
	if at < 0 {
		return s, ""
	}
	return s[:at], s[at:]
}

// divide answers what of s is ahead of that place, and what is behind the sign that stands there.
func divide(s string, where place) (ahead, behind string, found bool) {
	ahead, rest := cut(s, where)
	if rest == "" {
		return s, "", false
	}
	return ahead, rest[1:], true
}
