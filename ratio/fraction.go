package ratio

import "minikin/api"

// tooLarge is what a calculation panics with if its result is not small.
type tooLarge struct{}

// small returns r, or panics if it is not small.
func small(r Rat) Rat {
	smallNumber(r.num.bits())
	smallNumber(r.den.bits())
	return r
}

func smallNumber(bits int) {
	if bits > api.MaxBits {
		panic(tooLarge{})
	}
}

// yield returns what the calculation returns, or ErrSize if it panics.
func yield[T any](calculation func() T) (result T, e api.Errno) {
	defer func() {
		if recover() != nil {
			var none T
			result, e = none, api.ErrSize
		}
	}()
	return calculation(), api.OK
}

// fraction returns the fraction with a numerator and a denominator that have no common divisor.
func fraction(negative bool, num, den natural) Rat {
	if den.isOne() {
		den = nil
	}
	return Rat{negative: negative && num != nil, num: num, den: den}
}

func whole(negative bool, n natural) Rat {
	return fraction(negative, n, nil)
}

// lowest returns num divided by den.
func lowest(negative bool, num, den natural) Rat {
	common := commonDivisor(num, den)
	return fraction(negative, quotient(num, common), quotient(den, common))
}

// quotient returns x divided by y, a divisor of it.
func quotient(x, y natural) natural {
	out, _ := x.over(y)
	return out
}

// below returns the denominator.
func (r Rat) below() natural {
	if r.den == nil {
		return natural{1}
	}
	return r.den
}

func inverse(r Rat) Rat {
	return fraction(r.negative, r.below(), r.num)
}

// addWhole returns the sum of two whole numbers.
func addWhole(r, s Rat) Rat {
	switch {
	case r.negative == s.negative:
		return whole(r.negative, r.num.plus(s.num))
	case r.num.compare(s.num) < 0:
		return whole(s.negative, s.num.minus(r.num))
	}
	return whole(r.negative, r.num.minus(s.num))
}

// add returns the sum, of any size.
func add(r, s Rat) Rat {
	if r.den == nil && s.den == nil {
		return addWhole(r, s)
	}
	common := commonDivisor(r.below(), s.below())
	left, right := quotient(s.below(), common), quotient(r.below(), common)
	top := addWhole(whole(r.negative, r.num.times(left)), whole(s.negative, s.num.times(right)))
	// A prime that divides only one of the denominators does not divide the sum of the numerators.
	last := commonDivisor(top.num, common)
	return fraction(top.negative, quotient(top.num, last), right.times(quotient(s.below(), last)))
}

// multiply returns the product, of any size.
func multiply(r, s Rat) Rat {
	negative := r.negative != s.negative
	if r.den == nil && s.den == nil {
		return whole(negative, r.num.times(s.num))
	}
	a, b := commonDivisor(r.num, s.below()), commonDivisor(s.num, r.below())
	num := quotient(r.num, a).times(quotient(s.num, b))
	den := quotient(r.below(), b).times(quotient(s.below(), a))
	return fraction(negative, num, den)
}

// raise returns r to the power of n, from 0 on; it panics, before it takes long, if that is not small.
func raise(r Rat, n int) Rat {
	// A number of b bits is at least 2^(b - 1).
	smallNumber((r.num.bits() - 1) * n)
	smallNumber((r.den.bits() - 1) * n)
	return fraction(r.negative && n%2 == 1, r.num.power(n), r.below().power(n))
}
