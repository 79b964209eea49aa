package flow

import (
	"math"

	"minikin/api"
	"minikin/small"
)

// Branch joins two places of a tree.
type Branch struct {
	A, B   int
	Weight int64
}

// Least returns the least cut of two places of a board.
func Least(b Board, s, t int) (int64, api.Errno) {
	if e := checkEnds(b, s, t); e != api.OK {
		return 0, e
	}
	return lay(b, small.One(s), t).fill(), api.OK
}

// Tree returns a tree for b.
//
// All places hang on place 0 at first. Each place in turn is cut from the one on which it hangs, takes along those that hang beside it on its side of the cut, and changes places with the one above if that one's own branch crosses the cut (Gusfield's way to the tree of Gomory and Hu).
func Tree(b Board) ([]Branch, api.Errno) {
	if e := check(b); e != api.OK {
		return nil, e
	}
	var above [mostPlaces]int
	var weight [mostPlaces]int64
	for p := 1; p < b.Places; p++ {
		q := above[p]
		side, capacity := firstCut(b, p, q)
		for x := range (side &^ small.One(p)).All() {
			if above[x] == q {
				above[x] = p
			}
		}
		weight[p] = capacity
		if side.Has(above[q]) {
			above[p], above[q] = above[q], p
			weight[p], weight[q] = weight[q], capacity
		}
	}
	var tree []Branch
	for p := 1; p < b.Places; p++ {
		tree = append(tree, Branch{A: p, B: above[p], Weight: weight[p]})
	}
	return tree, api.OK
}

// IsTree reports whether l is a tree for b.
func IsTree(b Board, l []Branch) bool {
	if check(b) != api.OK || len(l) != b.Places-1 || !joins(l) {
		return false
	}
	for i, x := range l {
		least, _ := Least(b, x.A, x.B)
		if x.Weight != least || across(b, reach(l, x.A, i)) != least {
			return false
		}
	}
	return true
}

// Between returns the least weight on the way between two places of a tree.
func Between(l []Branch, a, b int) (int64, api.Errno) {
	if !joins(l) {
		return 0, api.ErrNet
	}
	if !areTwo(a, b, len(l)+1) {
		return 0, api.ErrArg
	}
	least := int64(math.MaxInt64)
	for i, x := range l {
		if !reach(l, a, i).Has(b) {
			least = min(least, x.Weight)
		}
	}
	return least, api.OK
}

// joins reports whether l joins the places 0 to its length into a tree.
func joins(l []Branch) bool {
	if len(l)+1 < leastPlaces || len(l)+1 > mostPlaces {
		return false
	}
	for _, x := range l {
		if !areTwo(x.A, x.B, len(l)+1) {
			return false
		}
	}
	return reach(l, 0, -1) == small.Below(len(l)+1)
}

// reach returns the places to which the branches but number without lead from place from.
func reach(l []Branch, from, without int) small.Set {
	met := small.One(from)
	for range l { // each round meets one more place at least, while there are any
		for i, x := range l {
			if i != without && met.Has(x.A) != met.Has(x.B) {
				met |= small.One(x.A) | small.One(x.B)
			}
		}
	}
	return met
}

// Weakest returns the least of the least cuts of two places, and the first set, ordered as lists, of this capacity that has place 0 and not all places.
func Weakest(b Board) (int64, []int, api.Errno) {
	if e := check(b); e != api.OK {
		return 0, nil, e
	}
	in := small.One(0)
	least := narrowest(b, in)
	// A list comes before those that it begins, and those that go on with a place before those that leave it out.
	for p := 1; across(b, in) != least; p++ {
		if narrowest(b, in|small.One(p)) == least {
			in |= small.One(p)
		}
	}
	return least, in.List(), api.OK
}

// narrowest returns the least capacity of a set that has all places of in, and not all of the board; more than any capacity if there is none.
func narrowest(b Board, in small.Set) int64 {
	least := int64(math.MaxInt64)
	for p := range (small.Below(b.Places) &^ in).All() {
		least = min(least, lay(b, in, p).fill())
	}
	return least
}
