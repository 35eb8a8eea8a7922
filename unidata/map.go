package unidata

import "portcullis/api"

// Map answers what r is mapped to, nothing of what may not stand in a name or is left out of it, and r itself of all others.
func Map(r rune) []rune {
	w := find(r)
	switch w.status {
	case api.Disallowed, api.Ignored:
		return nil
	case api.Mapped:
		return mapped(w.lo, r)
	}
	return []rune{r}
}

// mapped answers what r is mapped to, which stands in the mapped row that begins with lo.
func mapped(lo, r rune) []rune {
	if n := distance(lo); n != 0 {
		return []rune{r + n}
	}
	return instead(r)
}

// distance tells how much is added to those of the row that begins with lo; 0 is a row whose one code point has others told for it.
func distance(lo rune) rune {
	switch lo {
	case 0x41, 0xC0, 0xD8, 0x391, 0x3A3, 0x410:
		return 0x20
	case 0xB2:
		return -0x80
	case 0x388:
		return 0x25
	case 0x38E:
		return 0x3F
	case 0x405:
		return 0x50
	case 0xFF10, 0xFF41:
		return -0xFEE0
	case 0xFF21:
		return -0xFEC0
	case 0x10400:
		return 0x28
	}
	return 0
}

// instead answers what a code point that is mapped alone is mapped to.
func instead(r rune) []rune {
	switch r {
	case 0xAA:
		return []rune{0x61}
	case 0xB9:
		return []rune{0x31}
	case 0xBA:
		return []rune{0x6F}
	case 0x178:
		return []rune{0xFF}
	case 0x1D5:
		return []rune{0x1D6}
	case 0x386:
		return []rune{0x3AC}
	case 0x38C:
		return []rune{0x3CC}
	case 0x401:
		return []rune{0x451}
	case 0x408:
		return []rune{0x458}
	case 0x1E60:
		return []rune{0x1E61}
	case 0x1E62:
		return []rune{0x1E63}
	case 0x1E68:
		return []rune{0x1E69}
	case 0x1E9E:
		return []rune{0x73, 0x73}
	case 0x2126:
		return []rune{0x3C9}
	case 0x212A:
		return []rune{0x6B}
	case 0x212B:
		return []rune{0xE5}
	case 0x3002, 0xFF0E, 0xFF61:
		return []rune{0x2E}
	case 0xFB01:
		return []rune{0x66, 0x69}
	case 0xFF05:
		return []rune{0x25}
	case 0xFF0D:
		return []rune{0x2D}
	case 0xFF0F:
		return []rune{0x2F}
	}
	return nil
}
