package puny

import (
	"math/big"
	"strings"

	"portcullis/api"
)

// What the chapter's words say, done word by word, with numbers of any size, so that the tests hold the program to the text.

const signs = "abcdefghijklmnopqrstuvwxyz0123456789"

func wordsThreshold(k, bias int) int {
	if k <= bias {
		return 1
	}
	if k-bias >= 26 {
		return 26
	}
	return k - bias
}

func wordsAdapt(delta *big.Int, points int, first bool) int {
	by := int64(2)
	if first {
		by = 700
	}
	d := new(big.Int).Quo(delta, big.NewInt(by))
	d.Add(d, new(big.Int).Quo(d, big.NewInt(int64(points))))
	k := 0
	for d.Cmp(big.NewInt(455)) > 0 {
		d.Quo(d, big.NewInt(35))
		k += 36
	}
	small := int(d.Int64())
	return k + 36*small/(small+38)
}

// wordsWritten asks nothing: neither how long it is nor what the numbers are, if they are not negative.
func wordsWritten(l []rune) string {
	var out strings.Builder
	below := 0
	for _, r := range l {
		if r < 128 {
			out.WriteByte(byte(r))
			below++
		}
	}
	if below > 0 {
		out.WriteByte('-')
	}
	n, delta, bias, h := 128, 0, 72, below
	for h < len(l) {
		m := 1 << 40
		for _, r := range l {
			if int(r) >= n && int(r) < m {
				m = int(r)
			}
		}
		delta += (m - n) * (h + 1)
		n = m
		for _, r := range l {
			if int(r) < n {
				delta++
			}
			if int(r) == n {
				out.WriteString(wordsDigits(delta, bias))
				bias = wordsAdapt(big.NewInt(int64(delta)), h+1, h == below)
				delta = 0
				h++
			}
		}
		delta++
		n++
	}
	return out.String()
}

func wordsDigits(delta, bias int) string {
	out := ""
	q := delta
	for k := 36; ; k += 36 {
		t := wordsThreshold(k, bias)
		if q < t {
			return out + signs[q:q+1]
		}
		d := t + (q-t)%(36-t)
		out += signs[d : d+1]
		q = (q - t) / (36 - t)
	}
}

func wordsScalar(r int64) bool {
	return 0 <= r && r <= api.MaxRune && !(0xD800 <= r && r <= 0xDFFF)
}

func wordsEncode(l []rune) (string, api.Errno) {
	if len(l) > 63 {
		return "", api.ErrLong
	}
	for _, r := range l {
		if !wordsScalar(int64(r)) {
			return "", api.ErrArg
		}
	}
	if s := wordsWritten(l); len(s) <= 63 {
		return s, api.OK
	}
	return "", api.ErrLong
}

func wordsDecode(s string) ([]rune, api.Errno) {
	if len(s) > 63 {
		return nil, api.ErrLong
	}
	for _, c := range []byte(s) {
		if c >= 128 {
			return nil, api.ErrForm
		}
	}
	var points []rune
	rest := s
	if at := strings.LastIndex(s, "-"); at > 0 {
		for _, c := range []byte(s[:at]) {
			points = append(points, rune(c))
		}
		rest = s[at+1:]
	}
	bound := big.NewInt(1<<31 - 1)
	n, i, bias := int64(128), new(big.Int), 72
	for rest != "" {
		old := new(big.Int).Set(i)
		w := big.NewInt(1)
		for k := 36; ; k += 36 {
			if rest == "" {
				return nil, api.ErrForm
			}
			d := strings.IndexByte(signs, strings.ToLower(rest[:1])[0])
			rest = rest[1:]
			if d < 0 {
				return nil, api.ErrForm
			}
			i.Add(i, new(big.Int).Mul(w, big.NewInt(int64(d))))
			if i.Cmp(bound) > 0 {
				return nil, api.ErrForm
			}
			t := wordsThreshold(k, bias)
			if d < t {
				break
			}
			w.Mul(w, big.NewInt(int64(36-t)))
			if w.Cmp(bound) > 0 {
				return nil, api.ErrForm
			}
		}
		p := int64(len(points))
		bias = wordsAdapt(new(big.Int).Sub(i, old), int(p)+1, old.Sign() == 0)
		n += i.Int64() / (p + 1)
		if !wordsScalar(n) {
			return nil, api.ErrForm
		}
		at := i.Int64() % (p + 1)
		var next []rune
		next = append(next, points[:at]...)
		next = append(next, rune(n))
		points = append(next, points[at:]...)
		i.SetInt64(at + 1)
	}
	return points, api.OK
}
