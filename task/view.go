package task

import (
	"cmp"
	"math"
	"slices"

	"minikin/small"
)

// view is a formula, its number of bytes, and the states at which it is true.
type view struct {
	formula formula // nil if none was found that is short enough
	bytes   int
	at      small.Set
}

// The numbers of bytes that `!`, `<a>` and `(&)` add to formulas.
const (
	notBytes  = 1
	mayBytes  = 3
	bothBytes = 3
)

// within returns v, or no view if it has too many bytes.
func (v view) within() view {
	if v.bytes > mostBytes {
		return view{}
	}
	return v
}

// denied returns the view that is true where v is not, among the states of all.
func (v view) denied(all small.Set) view {
	if v.formula == nil {
		return v
	}
	return view{formula: not{of: v.formula}, bytes: v.bytes + notBytes, at: all &^ v.at}.within()
}

// mostTries is the number of times that a gatherer tries to go on, which bounds its time. It is more than the states that there are, so that a first try comes to its end.
const mostTries = 200

// gatherer looks for the views that are false at all states of a set, each at some of them, and have the fewest bytes together.
type gatherer struct {
	views []view
	best  []view
	bytes int // fewer than these are looked for, with bothBytes for each view
	tries int
}

// conjunction returns a conjunction of some views that is false at all states of out, as short as was found.
func conjunction(views []view, out small.Set) view {
	g := gatherer{views: useful(views, out), bytes: math.MaxInt, tries: mostTries}
	g.search(out, nil, 0)
	if g.best == nil {
		return view{}
	}
	last := len(g.best) - 1
	v := g.best[last]
	for _, w := range slices.Backward(g.best[:last]) {
		v = view{formula: both{one: w.formula, two: v.formula}, bytes: w.bytes + v.bytes + bothBytes, at: v.at & w.at}
	}
	return v.within()
}

// useful returns the views that are false at states of out, without those that are so only where a shorter one is.
func useful(views []view, out small.Set) []view {
	slices.SortStableFunc(views, func(v, w view) int { return cmp.Compare(v.bytes, w.bytes) })
	var kept []view
	for _, v := range views {
		left := out & v.at
		better := func(w view) bool { return out&w.at&^left == 0 }
		if v.formula != nil && left != out && !slices.ContainsFunc(kept, better) {
			kept = append(kept, v)
		}
	}
	return kept
}

// search adds views to those that are taken, which have so many bytes, until they are false at all states of left.
func (g *gatherer) search(left small.Set, taken []view, bytes int) {
	if left == 0 {
		g.best, g.bytes = slices.Clone(taken), bytes
		return
	}
	g.tries--
	for _, v := range g.choices(left) {
		more := bytes + v.bytes + bothBytes
		if more < g.bytes && g.tries > 0 {
			g.search(left&v.at, append(taken, v), more)
		}
	}
}

// choices returns the views that are false at the state of left at which fewest are, beginning with those of the fewest bytes for each state of left at which they are false.
func (g *gatherer) choices(left small.Set) []view {
	var out []view
	for p := range left.All() {
		views := slices.DeleteFunc(slices.Clone(g.views), func(v view) bool { return v.at.Has(p) })
		if out == nil || len(views) < len(out) {
			out = views
		}
	}
	slices.SortStableFunc(out, func(v, w view) int {
		return cmp.Compare((v.bytes+bothBytes)*(left&^w.at).Size(), (w.bytes+bothBytes)*(left&^v.at).Size())
	})
	return out
}
