// Package small has sets of numbers from 0 to 63. The layers use it for sets of places, points, posts, things, states, machines and variables.
package small

import (
	"iter"
	"math/bits"
)

// Set is a set of numbers: its bit n says whether n is one of them.
type Set uint64

// One returns the set of one number.
func One(n int) Set {
	return 1 << n
}

// Below returns the set of the numbers before n, which is at most 64.
func Below(n int) Set {
	return 1<<n - 1
}

// Has reports whether n, which is in the range, is in s.
func (s Set) Has(n int) bool {
	return s>>n&1 == 1
}

// All walks over the numbers of s, rising.
func (s Set) All() iter.Seq[int] {
	return func(yield func(int) bool) {
		for left := s; left != 0; left &= left - 1 {
			if !yield(left.First()) {
				return
			}
		}
	}
}

// First returns the least number of s, which has one.
func (s Set) First() int {
	return bits.TrailingZeros64(uint64(s))
}

// Size returns how many numbers s has.
func (s Set) Size() int {
	return bits.OnesCount64(uint64(s))
}

// List returns the numbers of s, rising.
func (s Set) List() []int {
	var out []int
	for n := range s.All() {
		out = append(out, n)
	}
	return out
}

// Rising returns the set of the numbers in list, and whether list is a rising list of some of the numbers before n, which is at most 64.
func Rising(list []int, n int) (Set, bool) {
	s, last := Set(0), -1
	for _, x := range list {
		if x <= last || x >= n {
			return 0, false
		}
		s, last = s|One(x), x
	}
	return s, true
}
