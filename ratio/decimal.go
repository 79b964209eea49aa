package ratio

import "strconv"

// chunk is the greatest power of ten in a word, and chunkDigits its exponent.
const (
	chunk       = 1_000_000_000
	chunkDigits = 9
)

// decimal returns the digits of x.
func (x natural) decimal() string {
	left := x.clone()
	var chunks []uint32
	for len(left) > 0 {
		chunks = append(chunks, divideBy(left, chunk))
		left = trim(left)
	}
	if len(chunks) == 0 {
		return "0"
	}
	last := len(chunks) - 1
	out := strconv.AppendUint(nil, uint64(chunks[last]), 10)
	for i := last - 1; i >= 0; i-- {
		digits := strconv.FormatUint(uint64(chunks[i]), 10)
		out = append(out, "00000000"[len(digits)-1:]...)
		out = append(out, digits...)
	}
	return string(out)
}

// isNumeral reports whether s is how a natural is written: digits without leading zeros.
func isNumeral(s string) bool {
	if s == "" || s[0] == '0' && s != "0" {
		return false
	}
	for i := range len(s) {
		if s[i] < '0' || s[i] > '9' {
			return false
		}
	}
	return true
}

// naturalFrom returns the number that a numeral means.
func naturalFrom(numeral string) natural {
	words := make([]uint32, 0, len(numeral)/chunkDigits+1)
	for from, to := 0, len(numeral)%chunkDigits; from < len(numeral); from, to = to, to+chunkDigits {
		var part, power uint64 = 0, 1
		for i := from; i < to; i++ {
			part = 10*part + uint64(numeral[i]-'0')
			power *= 10
		}
		for i, w := range words {
			part += uint64(w) * power
			words[i] = uint32(part)
			part >>= 32
		}
		words = append(words, uint32(part))
	}
	return trim(words)
}
