// Package ratio calculates with fractions of any size up to a limit, and solves linear equations.
package ratio

import (
	"strings"

	"minikin/api"
)

// Rat is a fraction. It is always in lowest terms. Its zero value is 0.
type Rat struct {
	negative bool
	num      natural
	den      natural // nil if it is 1, for the sake of the zero value
}

// The longest text that Parse reads, and the greatest exponent of Pow.
const (
	maxText  = 70000
	maxPower = 1000
)

// Of returns n.
func Of(n int64) Rat {
	return whole(n < 0, naturalOf(distance(n)))
}

// distance returns the distance of n from 0, which need not be an int64.
func distance(n int64) uint64 {
	if n < 0 {
		return -uint64(n)
	}
	return uint64(n)
}

// Make returns a divided by b.
func Make(a, b int64) (Rat, api.Errno) {
	if b == 0 {
		return Rat{}, api.ErrZero
	}
	return lowest((a < 0) != (b < 0), naturalOf(distance(a)), naturalOf(distance(b))), api.OK
}

// Parse returns the fraction whose canonical form is s.
func Parse(s string) (Rat, api.Errno) {
	if len(s) > maxText {
		return Rat{}, api.ErrLong
	}
	r, ok := read(s)
	if !ok {
		return Rat{}, api.ErrForm
	}
	return yield(func() Rat { return small(r) })
}

// read returns the fraction, of any size, whose canonical form is s.
func read(s string) (Rat, bool) {
	digits, negative := strings.CutPrefix(s, "-")
	over, under, divided := strings.Cut(digits, "/")
	if !isNumeral(over) || negative && over == "0" {
		return Rat{}, false
	}
	num := naturalFrom(over)
	if !divided {
		return whole(negative, num), true
	}
	if !isNumeral(under) || under == "0" || under == "1" {
		return Rat{}, false
	}
	den := naturalFrom(under)
	if !commonDivisor(num, den).isOne() {
		return Rat{}, false
	}
	return fraction(negative, num, den), true
}

// String returns the canonical form.
func (r Rat) String() string {
	s := r.num.decimal()
	if r.negative {
		s = "-" + s
	}
	if r.den != nil {
		s += "/" + r.den.decimal()
	}
	return s
}

// Int64 returns the number as an int64, and whether it is one.
func (r Rat) Int64() (int64, bool) {
	n := r.num.low()
	switch {
	case r.den != nil || len(r.num) > 2:
		return 0, false
	case r.negative && n <= 1<<63:
		return int64(-n), true
	case !r.negative && n < 1<<63:
		return int64(n), true
	}
	return 0, false
}

// Num returns the numerator.
func (r Rat) Num() Rat {
	return whole(r.negative, r.num.clone())
}

// Den returns the denominator.
func (r Rat) Den() Rat {
	return whole(false, r.below().clone())
}

// Sign returns -1, 0 or 1.
func (r Rat) Sign() int {
	if r.num == nil {
		return 0
	}
	return sign(!r.negative)
}

// Cmp returns the sign of r less s.
func (r Rat) Cmp(s Rat) int {
	if a, b := r.Sign(), s.Sign(); a != b {
		return sign(a > b)
	}
	c := r.num.times(s.below()).compare(s.num.times(r.below()))
	if r.negative {
		return -c
	}
	return c
}

// Neg returns 0 less r.
func (r Rat) Neg() Rat {
	return fraction(!r.negative, r.num.clone(), r.den.clone())
}

// Add returns the sum.
func (r Rat) Add(s Rat) (Rat, api.Errno) {
	return yield(func() Rat { return small(add(r, s)) })
}

// Sub returns the difference.
func (r Rat) Sub(s Rat) (Rat, api.Errno) {
	return yield(func() Rat { return small(add(r, s.Neg())) })
}

// Mul returns the product.
func (r Rat) Mul(s Rat) (Rat, api.Errno) {
	return yield(func() Rat { return small(multiply(r, s)) })
}

// Quo returns the quotient.
func (r Rat) Quo(s Rat) (Rat, api.Errno) {
	if s.Sign() == 0 {
		return Rat{}, api.ErrZero
	}
	return yield(func() Rat { return small(multiply(r, inverse(s))) })
}

// Pow returns r to the power of n.
func (r Rat) Pow(n int) (Rat, api.Errno) {
	switch {
	case n < -maxPower || n > maxPower:
		return Rat{}, api.ErrArg
	case n < 0 && r.Sign() == 0:
		return Rat{}, api.ErrZero
	case n < 0:
		r, n = inverse(r), -n
	}
	return yield(func() Rat { return small(raise(r, n)) })
}

// Floor returns the greatest integer that is at most r.
func (r Rat) Floor() Rat {
	n, rest := r.num.over(r.below())
	if r.negative && rest != nil {
		n = n.plus(natural{1})
	}
	return whole(r.negative, n)
}
