package flow

import (
	"iter"
	"math/bits"
)

// set is a set of places: its bit p says whether p is one of them.
type set uint32

func one(p int) set {
	return 1 << p
}

// below returns the set of the places before n.
func below(n int) set {
	return 1<<n - 1
}

func (s set) has(p int) bool {
	return s>>p&1 == 1
}

// places walks over the places of s, rising.
func (s set) places() iter.Seq[int] {
	return func(yield func(int) bool) {
		for left := s; left != 0; left &= left - 1 {
			if !yield(left.first()) {
				return
			}
		}
	}
}

// first returns the least place of s, which has one.
func (s set) first() int {
	return bits.TrailingZeros32(uint32(s))
}

func (s set) list() []int {
	var out []int
	for p := range s.places() {
		out = append(out, p)
	}
	return out
}

// rising returns the set of the places in list, and whether list is a rising list of some of n places.
func rising(list []int, n int) (set, bool) {
	s, last := set(0), -1
	for _, p := range list {
		if p <= last || p >= n {
			return 0, false
		}
		s, last = s|one(p), p
	}
	return s, true
}
