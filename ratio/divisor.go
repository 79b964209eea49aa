package ratio

import "math/bits"

// commonDivisor returns the greatest common divisor; of 0 and x it is x.
func commonDivisor(x, y natural) natural {
	if x.compare(y) < 0 {
		x, y = y, x
	}
	if len(y) > 2 {
		x, y = shorten(x.clone(), y.clone())
	}
	if len(y) == 0 {
		return x.clone()
	}
	if len(x) > 2 {
		_, rest := x.over(y)
		x, y = y, rest
	}
	a, b := x.low(), y.low()
	for b != 0 {
		a, b = b, a%b
	}
	return naturalOf(a)
}

// shorten takes steps of Euclid's algorithm until y, which is not greater than x, has at most two words. It writes into both.
func shorten(x, y natural) (natural, natural) {
	for len(y) > 2 {
		s := foresee(x, y)
		if s.b != 0 {
			x, y = s.take(x, y)
			continue
		}
		_, rest := x.over(y)
		x, y = y, rest
	}
	return x, y
}

// steps are several steps of Euclid's algorithm in one: x becomes a x + b y, and y becomes c x + d y.
type steps struct {
	a, b, c, d int64
}

// maxFactor is above the factors of steps: so small, they leave room for a carry in the sum of two products.
const maxFactor = 1 << 31

// foresee finds steps that are right for x and y, from their leading 64 bits alone. (Lehmer's way: it goes on while Collins's condition says that the quotients are those of x and y, too.)
func foresee(x, y natural) steps {
	m, n := leading(x, y)
	var a, c, nextC uint64 = 0, 1, 0
	var b, d, nextD uint64 = 0, 0, 1
	turned := true
	for nextD < maxFactor && n >= nextD && m-n >= d+nextD {
		q, rest := m/n, m%n
		m, n = n, rest
		a, c, nextC = c, nextC, c+q*nextC
		b, d, nextD = d, nextD, d+q*nextD
		turned = !turned
	}
	if turned {
		return steps{-int64(a), int64(b), int64(c), -int64(d)}
	}
	return steps{int64(a), -int64(b), -int64(c), int64(d)}
}

// leading returns the first 64 bits of x, and those of y at the same place. Both have at least three words.
func leading(x, y natural) (uint64, uint64) {
	shift := bits.LeadingZeros32(x[len(x)-1])
	return window(x, len(x), shift), window(y, len(x), shift)
}

// window returns 64 bits of x: the three words that end before end, less the first shift bits, and as many of the last as are left over.
func window(x natural, end, shift int) uint64 {
	var words [3]uint64
	for i := range words {
		if at := end - 3 + i; at < len(x) {
			words[i] = uint64(x[at])
		}
	}
	return words[2]<<(32+shift) | words[1]<<shift | words[0]<<shift>>32
}

// take takes the steps, at least one. Both results are at most y, so the words of x beyond those of y become 0.
func (s steps) take(x, y natural) (natural, natural) {
	x = x[:len(y)]
	var first, second int64
	for i := range y {
		v, w := int64(x[i]), int64(y[i])
		first += s.a*v + s.b*w
		second += s.c*v + s.d*w
		x[i], y[i] = uint32(first), uint32(second)
		first >>= 32
		second >>= 32
	}
	return trim(x), trim(y)
}

// commonMultiple returns the least common multiple of two numbers that are not 0.
func commonMultiple(x, y natural) natural {
	part, _ := y.over(commonDivisor(x, y))
	return x.times(part)
}
