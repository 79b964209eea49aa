package word

import (
	"iter"
	"math/bits"
)

// set is a set of states of a web, of which there are at most 128: a bit for each of them.
type set [2]uint64

// one returns the set of one state.
func one(s int) set {
	out := set{}
	out[s>>6] = 1 << (s & 63)
	return out
}

// with returns the states that are in a or in b.
func (a set) with(b set) set { return set{a[0] | b[0], a[1] | b[1]} }

// only returns the states that are in a and in b.
func (a set) only(b set) set { return set{a[0] & b[0], a[1] & b[1]} }

// without returns the states that are in a and not in b.
func (a set) without(b set) set { return set{a[0] &^ b[0], a[1] &^ b[1]} }

// meets reports whether a and b have a state in common.
func (a set) meets(b set) bool { return a.only(b) != set{} }

// within reports whether b has all states of a.
func (a set) within(b set) bool { return a.without(b) == set{} }

// has reports whether s is in a.
func (a set) has(s int) bool { return a[s>>6]>>(s&63)&1 == 1 }

// first returns the set of the states below n.
func first(n int) set {
	out := set{}
	for s := range n {
		out = out.with(one(s))
	}
	return out
}

// size returns the number of the states of a.
func (a set) size() int { return bits.OnesCount64(a[0]) + bits.OnesCount64(a[1]) }

// all yields the states of a, rising.
func (a set) all() iter.Seq[int] {
	return func(yield func(int) bool) {
		for i, rest := range a {
			for ; rest != 0; rest &= rest - 1 {
				if !yield(i<<6 + bits.TrailingZeros64(rest)) {
					return
				}
			}
		}
	}
}
