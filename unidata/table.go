package unidata

import "portcullis/api"

// row is one line of the table: what is known of the code points from lo to hi. The zero row is what is known of all that are in none.
type row struct {
	lo, hi  rune
	status  uint8
	script  uint8
	bidi    uint8
	class   uint8
	mark    bool
	joining uint8
}

// The table is made in parts, each with its rows rising, since a call asks for one code point only. A part is an array, so that making it takes no memory that stays.

// latinRows is all below 300.
func latinRows() [19]row {
	return [19]row{
		{0x2D, 0x2D, api.Valid, api.Common, api.BidiES, 0, false, api.JoinU},
		{0x2E, 0x2E, api.Valid, api.Common, api.BidiCS, 0, false, api.JoinU},
		{0x30, 0x39, api.Valid, api.Common, api.BidiEN, 0, false, api.JoinU},
		{0x41, 0x5A, api.Mapped, api.Latin, api.BidiL, 0, false, api.JoinU},
		{0x5F, 0x5F, api.Valid, api.Common, api.BidiON, 0, false, api.JoinU},
		{0x61, 0x7A, api.Valid, api.Latin, api.BidiL, 0, false, api.JoinU},
		{0xAA, 0xAA, api.Mapped, api.Latin, api.BidiL, 0, false, api.JoinU},
		{0xAD, 0xAD, api.Ignored, api.Common, api.BidiBN, 0, false, api.JoinU},
		{0xB2, 0xB3, api.Mapped, api.Common, api.BidiEN, 0, false, api.JoinU},
		{0xB9, 0xB9, api.Mapped, api.Common, api.BidiEN, 0, false, api.JoinU},
		{0xBA, 0xBA, api.Mapped, api.Latin, api.BidiL, 0, false, api.JoinU},
		{0xC0, 0xD6, api.Mapped, api.Latin, api.BidiL, 0, false, api.JoinU},
		{0xD8, 0xDE, api.Mapped, api.Latin, api.BidiL, 0, false, api.JoinU},
		{0xDF, 0xDF, api.Deviation, api.Latin, api.BidiL, 0, false, api.JoinU},
		{0xE0, 0xF6, api.Valid, api.Latin, api.BidiL, 0, false, api.JoinU},
		{0xF8, 0xFF, api.Valid, api.Latin, api.BidiL, 0, false, api.JoinU},
		{0x178, 0x178, api.Mapped, api.Latin, api.BidiL, 0, false, api.JoinU},
		{0x1D5, 0x1D5, api.Mapped, api.Latin, api.BidiL, 0, false, api.JoinU},
		{0x1D6, 0x1D6, api.Valid, api.Latin, api.BidiL, 0, false, api.JoinU},
	}
}

// greekAndCyrillicRows is all from 300 to 58F, with the marks that stand ahead of the Greek letters.
func greekAndCyrillicRows() [24]row {
	return [24]row{
		{0x300, 0x304, api.Valid, api.Inherited, api.BidiNSM, 230, true, api.JoinT},
		{0x306, 0x308, api.Valid, api.Inherited, api.BidiNSM, 230, true, api.JoinT},
		{0x30A, 0x30A, api.Valid, api.Inherited, api.BidiNSM, 230, true, api.JoinT},
		{0x323, 0x323, api.Valid, api.Inherited, api.BidiNSM, 220, true, api.JoinT},
		{0x327, 0x328, api.Valid, api.Inherited, api.BidiNSM, 202, true, api.JoinT},
		{0x386, 0x386, api.Mapped, api.Greek, api.BidiL, 0, false, api.JoinU},
		{0x388, 0x38A, api.Mapped, api.Greek, api.BidiL, 0, false, api.JoinU},
		{0x38C, 0x38C, api.Mapped, api.Greek, api.BidiL, 0, false, api.JoinU},
		{0x38E, 0x38F, api.Mapped, api.Greek, api.BidiL, 0, false, api.JoinU},
		{0x391, 0x3A1, api.Mapped, api.Greek, api.BidiL, 0, false, api.JoinU},
		{0x3A3, 0x3A9, api.Mapped, api.Greek, api.BidiL, 0, false, api.JoinU},
		{0x3AC, 0x3AF, api.Valid, api.Greek, api.BidiL, 0, false, api.JoinU},
		{0x3B1, 0x3C1, api.Valid, api.Greek, api.BidiL, 0, false, api.JoinU},
		{0x3C2, 0x3C2, api.Deviation, api.Greek, api.BidiL, 0, false, api.JoinU},
		{0x3C3, 0x3C9, api.Valid, api.Greek, api.BidiL, 0, false, api.JoinU},
		{0x3CC, 0x3CE, api.Valid, api.Greek, api.BidiL, 0, false, api.JoinU},
		{0x401, 0x401, api.Mapped, api.Cyrillic, api.BidiL, 0, false, api.JoinU},
		{0x405, 0x406, api.Mapped, api.Cyrillic, api.BidiL, 0, false, api.JoinU},
		{0x408, 0x408, api.Mapped, api.Cyrillic, api.BidiL, 0, false, api.JoinU},
		{0x410, 0x42F, api.Mapped, api.Cyrillic, api.BidiL, 0, false, api.JoinU},
		{0x430, 0x44F, api.Valid, api.Cyrillic, api.BidiL, 0, false, api.JoinU},
		{0x451, 0x451, api.Valid, api.Cyrillic, api.BidiL, 0, false, api.JoinU},
		{0x455, 0x456, api.Valid, api.Cyrillic, api.BidiL, 0, false, api.JoinU},
		{0x458, 0x458, api.Valid, api.Cyrillic, api.BidiL, 0, false, api.JoinU},
	}
}

// hebrewToDevanagariRows is all from 590 to 1DFF.
func hebrewToDevanagariRows() [15]row {
	return [15]row{
		{0x5D0, 0x5EA, api.Valid, api.Hebrew, api.BidiR, 0, false, api.JoinU},
		{0x627, 0x627, api.Valid, api.Arabic, api.BidiAL, 0, false, api.JoinR},
		{0x628, 0x628, api.Valid, api.Arabic, api.BidiAL, 0, false, api.JoinD},
		{0x62A, 0x62A, api.Valid, api.Arabic, api.BidiAL, 0, false, api.JoinD},
		{0x62F, 0x62F, api.Valid, api.Arabic, api.BidiAL, 0, false, api.JoinR},
		{0x633, 0x633, api.Valid, api.Arabic, api.BidiAL, 0, false, api.JoinD},
		{0x644, 0x646, api.Valid, api.Arabic, api.BidiAL, 0, false, api.JoinD},
		{0x648, 0x648, api.Valid, api.Arabic, api.BidiAL, 0, false, api.JoinR},
		{0x64A, 0x64A, api.Valid, api.Arabic, api.BidiAL, 0, false, api.JoinD},
		{0x64B, 0x64B, api.Valid, api.Inherited, api.BidiNSM, 27, true, api.JoinT},
		{0x660, 0x669, api.Valid, api.Arabic, api.BidiAN, 0, false, api.JoinU},
		{0x6F0, 0x6F9, api.Valid, api.Arabic, api.BidiEN, 0, false, api.JoinU},
		{0x915, 0x939, api.Valid, api.Devanagari, api.BidiL, 0, false, api.JoinU},
		{0x93F, 0x93F, api.Valid, api.Devanagari, api.BidiL, 0, true, api.JoinU},
		{0x94D, 0x94D, api.Valid, api.Devanagari, api.BidiNSM, 9, true, api.JoinT},
	}
}

// laterRows is all from 1E00 on.
func laterRows() [30]row {
	return [30]row{
		{0x1E60, 0x1E60, api.Mapped, api.Latin, api.BidiL, 0, false, api.JoinU},
		{0x1E61, 0x1E61, api.Valid, api.Latin, api.BidiL, 0, false, api.JoinU},
		{0x1E62, 0x1E62, api.Mapped, api.Latin, api.BidiL, 0, false, api.JoinU},
		{0x1E63, 0x1E63, api.Valid, api.Latin, api.BidiL, 0, false, api.JoinU},
		{0x1E68, 0x1E68, api.Mapped, api.Latin, api.BidiL, 0, false, api.JoinU},
		{0x1E69, 0x1E69, api.Valid, api.Latin, api.BidiL, 0, false, api.JoinU},
		{0x1E9E, 0x1E9E, api.Mapped, api.Latin, api.BidiL, 0, false, api.JoinU},
		{0x200C, 0x200C, api.Deviation, api.Inherited, api.BidiBN, 0, false, api.JoinU},
		{0x200D, 0x200D, api.Deviation, api.Inherited, api.BidiBN, 0, false, api.JoinC},
		{0x2126, 0x2126, api.Mapped, api.Greek, api.BidiL, 0, false, api.JoinU},
		{0x212A, 0x212A, api.Mapped, api.Latin, api.BidiL, 0, false, api.JoinU},
		{0x212B, 0x212B, api.Mapped, api.Latin, api.BidiL, 0, false, api.JoinU},
		{0x2603, 0x2603, api.Valid, api.Common, api.BidiON, 0, false, api.JoinU},
		{0x3002, 0x3002, api.Mapped, api.Common, api.BidiON, 0, false, api.JoinU},
		{0x3041, 0x3096, api.Valid, api.Hiragana, api.BidiL, 0, false, api.JoinU},
		{0x30A1, 0x30FA, api.Valid, api.Katakana, api.BidiL, 0, false, api.JoinU},
		{0x30FC, 0x30FC, api.Valid, api.Common, api.BidiL, 0, false, api.JoinU},
		{0x4E00, 0x4E8C, api.Valid, api.Han, api.BidiL, 0, false, api.JoinU},
		{0xFB01, 0xFB01, api.Mapped, api.Latin, api.BidiL, 0, false, api.JoinU},
		{0xFF05, 0xFF05, api.Mapped, api.Common, api.BidiON, 0, false, api.JoinU},
		{0xFF0D, 0xFF0D, api.Mapped, api.Common, api.BidiES, 0, false, api.JoinU},
		{0xFF0E, 0xFF0E, api.Mapped, api.Common, api.BidiCS, 0, false, api.JoinU},
		{0xFF0F, 0xFF0F, api.Mapped, api.Common, api.BidiCS, 0, false, api.JoinU},
		{0xFF10, 0xFF19, api.Mapped, api.Common, api.BidiEN, 0, false, api.JoinU},
		{0xFF21, 0xFF3A, api.Mapped, api.Latin, api.BidiL, 0, false, api.JoinU},
		{0xFF41, 0xFF5A, api.Mapped, api.Latin, api.BidiL, 0, false, api.JoinU},
		{0xFF61, 0xFF61, api.Mapped, api.Common, api.BidiON, 0, false, api.JoinU},
		{0x10400, 0x10427, api.Mapped, api.Deseret, api.BidiL, 0, false, api.JoinU},
		{0x10428, 0x1044F, api.Valid, api.Deseret, api.BidiL, 0, false, api.JoinU},
		{0x1F600, 0x1F600, api.Valid, api.Common, api.BidiON, 0, false, api.JoinU},
	}
}
