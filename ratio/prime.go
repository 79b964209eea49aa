package ratio

import (
	"iter"
	"math/bits"
)

// prime is the field of the residues of a prime between 2^30 and 2^31.
type prime struct {
	p          uint64
	reciprocal uint64 // 2^64 divided by p, rounded down
}

// primeBits is a number of bits that every prime of primes has more than.
const primeBits = 30

// primes yields primes, from the greatest one below 2^31 on downwards. No calculation needs so many that they come near 2^30.
func primes() iter.Seq[prime] {
	return func(give func(prime) bool) {
		for p := uint32(1<<31 - 1); p > 1<<primeBits; p -= 2 {
			if f := fieldOf(p); f.isPrime() && !give(f) {
				return
			}
		}
	}
}

// fieldOf returns calculation modulo p, which must be odd.
func fieldOf(p uint32) prime {
	return prime{uint64(p), (1<<64 - 1) / uint64(p)}
}

// isPrime reports whether p is prime: below 3215031751 no other number passes for one with all of these bases (Jaeschke).
func (f prime) isPrime() bool {
	for _, base := range [4]uint32{2, 3, 5, 7} {
		if !f.passes(base) {
			return false
		}
	}
	return true
}

// passes reports whether p looks like a prime from base: base to the power of the odd part of p - 1 is 1, or becomes -1 by squaring.
func (f prime) passes(base uint32) bool {
	twos := bits.TrailingZeros64(f.p - 1)
	x := uint32(1)
	for i := 31; i >= twos; i-- {
		x = f.Times(x, x)
		if (f.p-1)>>i&1 == 1 {
			x = f.Times(x, base)
		}
	}
	if x == 1 {
		return true
	}
	for range twos {
		if uint64(x) == f.p-1 {
			return true
		}
		x = f.Times(x, x)
	}
	return false
}

// reduce returns the residue of x. (The product with the reciprocal is the quotient, or 1 less.)
func (f prime) reduce(x uint64) uint32 {
	quotient, _ := bits.Mul64(x, f.reciprocal)
	x -= quotient * f.p
	if x >= f.p {
		x -= f.p
	}
	return uint32(x)
}

// Minus returns a less b.
func (f prime) Minus(a, b uint32) uint32 {
	if a < b {
		return uint32(uint64(a) + f.p - uint64(b))
	}
	return a - b
}

// Times returns the product.
func (f prime) Times(a, b uint32) uint32 {
	return f.reduce(uint64(a) * uint64(b))
}

// Over returns the quotient of a and b, which must not be 0.
func (f prime) Over(a, b uint32) uint32 {
	// Euclid's algorithm: each rest is a multiple of b, up to one of p.
	rest, next := int64(f.p), int64(b)
	multiple, nextMultiple := int64(0), int64(1)
	for next > 1 {
		q := rest / next
		rest, next = next, rest-q*next
		multiple, nextMultiple = nextMultiple, multiple-q*nextMultiple
	}
	if nextMultiple < 0 {
		nextMultiple += int64(f.p)
	}
	return f.Times(a, uint32(nextMultiple))
}

// IsZero reports whether a is 0.
func (f prime) IsZero(a uint32) bool {
	return a == 0
}

// residue returns the residue of x.
func (f prime) residue(x natural) uint32 {
	var out uint32
	for i := len(x) - 1; i >= 0; i-- {
		out = f.reduce(uint64(out)<<32 | uint64(x[i]))
	}
	return out
}

// residues returns the residues of fractions with denominators that p does not divide. The denominators are inverted together, because then only one inverse has to be found.
func (f prime) residues(row []Rat) []uint32 {
	out, dens := make([]uint32, len(row)), make([]uint32, len(row))
	all := uint32(1)
	for j, r := range row {
		dens[j] = f.residue(r.below())
		out[j] = f.Times(f.signed(r), all)
		all = f.Times(all, dens[j])
	}
	left := f.Over(1, all)
	for j := len(row) - 1; j >= 0; j-- {
		out[j] = f.Times(out[j], left)
		left = f.Times(left, dens[j])
	}
	return out
}

// signed returns the residue of r's numerator.
func (f prime) signed(r Rat) uint32 {
	n := f.residue(r.num)
	if r.negative {
		return f.Minus(0, n)
	}
	return n
}
