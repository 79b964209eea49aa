package pair

import (
	"minikin/api"
	"minikin/small"
)

// links join the things of an order into as few chains as there can be.
type links struct {
	next, prior [mostThings]int // the thing after each one in its chain, and the one before it, or none
	met         small.Set       // the things that were tried in vain, that the ends of chains might go on
}

// link returns links for o.
func link(o *order) *links {
	l := &links{}
	for a := range o.things {
		l.next[a], l.prior[a] = none, none
	}
	var follow func(a int) bool
	follow = func(a int) bool {
		for b := range o.after[a].All() {
			if l.met.Has(b) {
				continue
			}
			l.met |= small.One(b)
			if l.prior[b] == none || follow(l.prior[b]) {
				l.next[a], l.prior[b] = b, a
				return true
			}
		}
		return false
	}
	for a := range o.things {
		// What was met in vain remains so: the things that it follows would have to go on with others, and all of those were met in vain too.
		before := l.met
		if follow(a) {
			l.met = before
		}
	}
	return l
}

// Chains returns as few chains as there can be that have each thing in just one.
func Chains(n int, before [][2]int) ([][]int, api.Errno) {
	o, e := arrange(n, before)
	if e != api.OK {
		return nil, e
	}
	l := link(o)
	var chains [][]int
	for a := range n {
		if l.prior[a] != none {
			continue
		}
		var chain []int
		for b := a; b != none; b = l.next[b] {
			chain = append(chain, b)
		}
		chains = append(chains, chain)
	}
	return chains, api.OK
}

// Antichain returns an antichain with as many things as there are chains.
//
// It takes from each chain the last thing that was not met. This thing ends its chain, or the one after it was met in vain: either way all things that come after it were tried, and so met, and none of them is taken.
func Antichain(n int, before [][2]int) ([]int, api.Errno) {
	o, e := arrange(n, before)
	if e != api.OK {
		return nil, e
	}
	l := link(o)
	out := small.Set(0)
	for a := range n {
		if !l.met.Has(a) && (l.next[a] == none || l.met.Has(l.next[a])) {
			out |= small.One(a)
		}
	}
	return out.List(), api.OK
}
