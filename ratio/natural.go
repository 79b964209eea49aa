package ratio

import "math/bits"

// natural is a whole number from 0 on: words of 32 bits, the least one first, the last one not 0. 0 is nil, so that equal numbers look alike. The words of a natural are never changed, unless a function has just made them itself.
type natural []uint32

// trim cuts the leading zeros off, and the capacity with them: appending to the result never writes into what lies behind it.
func trim(words []uint32) natural {
	n := len(words)
	for n > 0 && words[n-1] == 0 {
		n--
	}
	if n == 0 {
		return nil
	}
	return words[:n:n]
}

func naturalOf(n uint64) natural {
	return trim([]uint32{uint32(n), uint32(n >> 32)})
}

// low returns x, if x has at most two words.
func (x natural) low() uint64 {
	var n uint64
	for i := min(len(x), 2) - 1; i >= 0; i-- {
		n = n<<32 | uint64(x[i])
	}
	return n
}

func (x natural) clone() natural {
	if len(x) == 0 {
		return nil
	}
	out := make(natural, len(x))
	copy(out, x)
	return out
}

func (x natural) isOne() bool {
	return len(x) == 1 && x[0] == 1
}

// bits returns the number of bits of x; 0 has none.
func (x natural) bits() int {
	if len(x) == 0 {
		return 0
	}
	return 32*len(x) - bits.LeadingZeros32(x[len(x)-1])
}

// compare returns the sign of x less y.
func (x natural) compare(y natural) int {
	if len(x) != len(y) {
		return sign(len(x) > len(y))
	}
	for i := len(x) - 1; i >= 0; i-- {
		if x[i] != y[i] {
			return sign(x[i] > y[i])
		}
	}
	return 0
}

func sign(greater bool) int {
	if greater {
		return 1
	}
	return -1
}

func (x natural) plus(y natural) natural {
	if len(x) < len(y) {
		x, y = y, x
	}
	out := make([]uint32, len(x)+1)
	copy(out, x)
	addAt(out, y, 0)
	return trim(out)
}

// addAt adds x to the number in words, from the word at on. There must be room for the carry.
func addAt(words []uint32, x natural, at int) {
	var carry uint64
	for i, w := range x {
		carry += uint64(words[at+i]) + uint64(w)
		words[at+i] = uint32(carry)
		carry >>= 32
	}
	for i := at + len(x); carry > 0; i++ {
		carry += uint64(words[i])
		words[i] = uint32(carry)
		carry >>= 32
	}
}

// minus returns x less y, which must not be greater than x.
func (x natural) minus(y natural) natural {
	out := make([]uint32, len(x))
	var borrow int64
	for i, w := range x {
		borrow += int64(w)
		if i < len(y) {
			borrow -= int64(y[i])
		}
		out[i] = uint32(borrow)
		borrow >>= 32
	}
	return trim(out)
}

// shifted returns the words of x times 2^by, with one word more than x; by is below 32.
func (x natural) shifted(by int) []uint32 {
	out := make([]uint32, len(x)+1)
	var carry uint64
	for i, w := range x {
		carry |= uint64(w) << by
		out[i] = uint32(carry)
		carry >>= 32
	}
	out[len(x)] = uint32(carry)
	return out
}

// shiftBack divides the number in words by 2^by; by is below 32.
func shiftBack(words []uint32, by int) {
	var above uint64
	for i := len(words) - 1; i >= 0; i-- {
		above = above<<32 | uint64(words[i])
		words[i] = uint32(above >> by)
	}
}
