package flow

import (
	"minikin/api"
	"minikin/small"
)

// Limits of networks and boards.
const (
	leastPlaces = 2
	mostPlaces  = 24
	mostSteps   = 200
	mostCap     = 1_000_000_000
)

// plan is what networks and boards have in common: places, and steps between two of them with a capacity in each direction.
type plan interface {
	size() (places, steps int)
	step(i int) (from, to int, there, back int64)
}

func (n *Net) size() (places, steps int) {
	return n.Places, len(n.Arcs)
}

// step: an arc lets nothing back.
func (n *Net) step(i int) (from, to int, there, back int64) {
	x := n.Arcs[i]
	return x.From, x.To, x.Cap, 0
}

func (b Board) size() (places, steps int) {
	return b.Places, len(b.Links)
}

func (b Board) step(i int) (from, to int, there, back int64) {
	x := b.Links[i]
	return x.A, x.B, x.Cap, x.Cap
}

// check returns ErrNet if p does not keep to the limits.
func check(p plan) api.Errno {
	places, steps := p.size()
	if places < leastPlaces || places > mostPlaces || steps > mostSteps {
		return api.ErrNet
	}
	for i := range steps {
		from, to, there, _ := p.step(i)
		if !areTwo(from, to, places) || there < 0 || there > mostCap {
			return api.ErrNet
		}
	}
	return api.OK
}

// checkEnds returns ErrNet if p does not keep to the limits, ErrArg if s and t are not two of its places.
func checkEnds(p plan, s, t int) api.Errno {
	if e := check(p); e != api.OK {
		return e
	}
	if places, _ := p.size(); !areTwo(s, t, places) {
		return api.ErrArg
	}
	return api.OK
}

// areTwo reports whether a and b are two different numbers below n.
func areTwo(a, b, n int) bool {
	return a >= 0 && a < n && b >= 0 && b < n && a != b
}

// across returns the capacity of a set: what can go from it to other places.
func across(p plan, side small.Set) int64 {
	sum := int64(0)
	_, steps := p.size()
	for i := range steps {
		from, to, there, back := p.step(i)
		if side.Has(from) && !side.Has(to) {
			sum += there
		}
		if side.Has(to) && !side.Has(from) {
			sum += back
		}
	}
	return sum
}
