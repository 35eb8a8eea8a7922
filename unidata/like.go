package unidata

// Like answers what r looks like, which is r itself if it looks like nothing else.
func Like(r rune) []rune {
	switch r {
	case 0x6D:
		return []rune{0x72, 0x6E}
	case 0x30, 0x3BF, 0x43E, 0x5E1:
		return []rune{0x6F}
	case 0x31, 0x627:
		return []rune{0x6C}
	case 0x3B1, 0x430:
		return []rune{0x61}
	case 0x3BD:
		return []rune{0x76}
	case 0x3C1, 0x440:
		return []rune{0x70}
	case 0x435:
		return []rune{0x65}
	case 0x441:
		return []rune{0x63}
	case 0x443:
		return []rune{0x79}
	case 0x445:
		return []rune{0x78}
	case 0x455:
		return []rune{0x73}
	case 0x456:
		return []rune{0x69}
	case 0x458:
		return []rune{0x6A}
	case 0x30FC:
		return []rune{0x4E00}
	}
	return []rune{r}
}
