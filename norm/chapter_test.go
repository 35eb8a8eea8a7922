package norm

import (
	"slices"
	"strconv"
	"strings"
	"testing"

	"portcullis/unidata"
)

// What the chapter's words say, done word by word and slowly, so that the tests hold the program to the text.

// hexes reads numbers of the chapter, with blanks between; a minus may stand ahead of one.
func hexes(t *testing.T, s string) []rune {
	t.Helper()
	var l []rune
	for f := range strings.FieldsSeq(s) {
		n, err := strconv.ParseInt(f, 16, 32)
		if err != nil {
			t.Fatal(err)
		}
		l = append(l, rune(n))
	}
	return l
}

// outOfOrder tells where one of a class other than 0 stands directly behind one of a greater class; 0, if nowhere.
func outOfOrder(l []rune) int {
	for i := 1; i < len(l); i++ {
		c := unidata.Class(l[i])
		if c != 0 && unidata.Class(l[i-1]) > c {
			return i
		}
	}
	return 0
}

// wordsOrder exchanges neighbours alone, so that those of one class stay as they stand.
func wordsOrder(l []rune) []rune {
	l = slices.Clone(l)
	for i := outOfOrder(l); i > 0; i = outOfOrder(l) {
		for ; i > 0 && unidata.Class(l[i]) != 0 && unidata.Class(l[i-1]) > unidata.Class(l[i]); i-- {
			l[i-1], l[i] = l[i], l[i-1]
		}
	}
	return l
}

func canBeTakenApart(r rune) bool { return len(unidata.Decomp(r)) > 0 }

func wordsNFD(l []rune) []rune {
	l = slices.Clone(l)
	for i := slices.IndexFunc(l, canBeTakenApart); i >= 0; i = slices.IndexFunc(l, canBeTakenApart) {
		l = slices.Replace(l, i, i+1, unidata.Decomp(l[i])...)
	}
	return wordsOrder(l)
}

func wordsNFC(l []rune) []rune {
	l = wordsNFD(l)
	for i := 0; i < len(l); {
		if whole, s, is := pairAt(l, i); is {
			l[s] = whole
			l = slices.Delete(l, i, i+1)
			continue
		}
		i++
	}
	return l
}

// pairAt tells what l[i] becomes with the last one of class 0 ahead of it, and where that one stands, if it may be put to it.
func pairAt(l []rune, i int) (whole rune, s int, is bool) {
	s = i - 1
	for s >= 0 && unidata.Class(l[s]) != 0 {
		s--
	}
	if s < 0 {
		return 0, 0, false
	}
	for _, b := range l[s+1 : i] {
		if c := unidata.Class(b); c == 0 || c >= unidata.Class(l[i]) {
			return 0, 0, false
		}
	}
	whole, is = unidata.Pair(l[s], l[i])
	return whole, s, is
}

// answers holds what a call answered against what it must.
func answers(t *testing.T, call string, in, got, want []rune) {
	t.Helper()
	if !slices.Equal(got, want) {
		t.Errorf("%s(%x): %x, not %x", call, in, got, want)
	}
}

// byWords holds all calls on l to the chapter's words.
func byWords(t *testing.T, l []rune) {
	t.Helper()
	answers(t, "Order", l, Order(l), wordsOrder(l))
	answers(t, "NFD", l, NFD(l), wordsNFD(l))
	nfc := wordsNFC(l)
	answers(t, "NFC", l, NFC(l), nfc)
	if got, want := Is(l), slices.Equal(nfc, l); got != want {
		t.Errorf("Is(%x): %v, not %v", l, got, want)
	}
}
