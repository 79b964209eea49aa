package ratio

import "math/bits"

// over returns the quotient, rounded down, and the rest of x divided by y, which must not be 0.
func (x natural) over(y natural) (quotient, rest natural) {
	if x.compare(y) < 0 {
		return nil, x.clone()
	}
	if len(y) == 1 {
		out := x.clone()
		last := divideBy(out, y[0])
		return trim(out), naturalOf(uint64(last))
	}
	// The divisor's first bit is made 1: then two words tell each digit of the quotient but for 1.
	n, shift := len(y), bits.LeadingZeros32(y[len(y)-1])
	by, left := y.shifted(shift)[:n], x.shifted(shift)
	digits := make([]uint32, len(x)-n+1)
	for i := len(x) - n; i >= 0; i-- {
		digits[i] = takeOut(left[i:i+n+1], by)
	}
	shiftBack(left[:n], shift)
	return trim(digits), trim(left[:n])
}

// divideBy divides the number in words by one word, and returns the rest.
func divideBy(words []uint32, by uint32) uint32 {
	var rest uint64
	for i := len(words) - 1; i >= 0; i-- {
		rest = rest<<32 | uint64(words[i])
		words[i] = uint32(rest / uint64(by))
		rest %= uint64(by)
	}
	return uint32(rest)
}

// takeOut subtracts by from part as often as it can, and returns how often. Part has one word more than by, which has at least two and a first bit of 1; the result must fit into a word.
func takeOut(part, by []uint32) uint32 {
	n := len(by)
	digit := guess(part[n], part[n-1], part[n-2], by[n-1], by[n-2])
	if subtract(part, by, digit) {
		digit--
		addBack(part, by)
	}
	return uint32(digit)
}

// guess returns a digit of a quotient, or one more, from the leading words of both numbers.
func guess(a, b, c, y, z uint32) uint64 {
	top := uint64(a)<<32 | uint64(b)
	digit, rest := top/uint64(y), top%uint64(y)
	for digit>>32 > 0 || digit*uint64(z) > rest<<32|uint64(c) {
		digit--
		rest += uint64(y)
		if rest>>32 > 0 {
			break
		}
	}
	return digit
}

// subtract takes by, digit times, from part, and reports whether part would be below 0; then it lacks 2^32 to the power of its length.
func subtract(part, by []uint32, digit uint64) bool {
	var carry uint64
	var borrow int64
	for i, w := range by {
		carry += digit * uint64(w)
		borrow += int64(part[i]) - int64(uint32(carry))
		part[i] = uint32(borrow)
		carry >>= 32
		borrow >>= 32
	}
	borrow += int64(part[len(by)]) - int64(carry)
	part[len(by)] = uint32(borrow)
	return borrow < 0
}

// addBack undoes one subtraction of by; the carry out of part is what part lacked.
func addBack(part, by []uint32) {
	var carry uint64
	for i, w := range by {
		carry += uint64(part[i]) + uint64(w)
		part[i] = uint32(carry)
		carry >>= 32
	}
	part[len(by)] += uint32(carry)
}
