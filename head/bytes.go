package head

// signs is what a token may have beside letters and digits.
const signs = "!#$%&'*+-.^_`|~"

// Token tells whether s is a token.
func Token(s string) bool {
	in := inTokens()
	return s != "" && isOf(s, func(c byte) bool { return in[c] })
}

// inTokens answers, by bytes, which of them a token may have.
func inTokens() [256]bool {
	var in [256]bool
	for c := range byte(26) {
		in['a'+c], in['A'+c] = true, true
	}
	for c := range byte(10) {
		in['0'+c] = true
	}
	for _, c := range []byte(signs) {
		in[c] = true
	}
	return in
}

// isOf tells whether s has no bytes but those that may be.
func isOf(s string, may func(c byte) bool) bool {
	for i := range len(s) {
		if !may(s[i]) {
			return false
		}
	}
	return true
}

func isDigit(c byte) bool { return '0' <= c && c <= '9' }

// isSeen tells which bytes a target may have.
func isSeen(c byte) bool { return '!' <= c && c <= '~' }

// isValue tells which bytes a field's value may have.
func isValue(c byte) bool { return c == '\t' || c >= ' ' && c != '\x7f' }
