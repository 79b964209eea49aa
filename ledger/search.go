package ledger

import (
	"iter"
	"slices"

	"minikin/small"
)

// mostProduct is the greatest product of counts that a result may have.
const mostProduct = 1000000000000

// node is an atom at its place in a search. Once its variables have values, the atoms that come after it fall into groups that have no other variables in common: each group hangs below it, with an atom of its own on top.
type node struct {
	part
	bound  small.Set         // of its variables, those that have values when its turn comes
	fits   map[values][]line // by their values: its lines that fit
	needed small.Set         // of all that have values then, those that occur in it or below it
	below  []*node
	met    map[values]bool   // by the values of needed: whether it and all below it can become rows
	led    map[values][]line // by the values of needed: its lines with which all below it can
}

// place returns an atom at its place above others, when some variables have values.
func place(p part, others []part, known small.Set) *node {
	all := p.vars
	for _, o := range others {
		all |= o.vars
	}
	return &node{
		part:   p,
		bound:  p.vars & known,
		fits:   p.fit(p.vars & known),
		needed: all & known,
		below:  hang(others, known|p.vars),
		met:    map[values]bool{},
		led:    map[values][]line{},
	}
}

// hang returns the atoms on top of the groups into which atoms fall when some variables have values. Those that have nothing below them come first, as they are soon looked up.
func hang(parts []part, known small.Set) []*node {
	var out []*node
	for len(parts) > 0 {
		group, rest := separate(parts, known)
		at := topmost(group, known)
		out = append(out, place(group[at], without(group, at), known))
		parts = rest
	}
	slices.SortStableFunc(out, func(a, b *node) int { return len(a.below) - len(b.below) })
	return out
}

// separate returns the first atom with all that are linked with it by variables without values, and the others.
func separate(parts []part, known small.Set) (group, rest []part) {
	linked := parts[0].vars &^ known
	for range parts {
		for _, p := range parts {
			if p.vars&linked != 0 {
				linked |= p.vars &^ known
			}
		}
	}
	group = append(group, parts[0])
	for _, p := range parts[1:] {
		if p.vars&linked != 0 {
			group = append(group, p)
		} else {
			rest = append(rest, p)
		}
	}
	return group, rest
}

// topmost returns which atom of a group has most variables with values and, of these, the fewest lines that fit on average. Where atoms can be put in a tree, this is the one on which alone the group depends.
func topmost(group []part, known small.Set) int {
	best := 0
	for i, p := range group {
		mine, others := p.vars&known, group[best].vars&known
		more := mine.Size() - others.Size()
		if more > 0 || more == 0 && p.lines*len(group[best].fit(others)) < group[best].lines*len(p.fit(mine)) {
			best = i
		}
	}
	return best
}

// with returns the values, and those that a line says of the variables of n.
func (n *node) with(known values, l line) values {
	for x := range n.vars.All() {
		known[x] = l.at[x]
	}
	return known
}

// found returns the lines of n that fit.
func (n *node) found(known values) []line {
	return n.fits[known.only(n.bound)]
}

// isMet reports whether n and all below it can become rows.
func (n *node) isMet(known values) bool {
	if len(n.below) == 0 {
		return len(n.found(known)) > 0
	}
	state := known.only(n.needed)
	met, seen := n.met[state]
	if !seen {
		met = slices.ContainsFunc(n.found(known), func(l line) bool { return n.leads(known, l) })
		n.met[state] = met
	}
	return met
}

// leads reports whether all below n can become rows after a line of n.
func (n *node) leads(known values, l line) bool {
	next := n.with(known, l)
	for _, b := range n.below {
		if !b.isMet(next) {
			return false
		}
	}
	return true
}

// leading returns the lines of n that fit, with which all below n can become rows.
func (n *node) leading(known values) []line {
	if len(n.below) == 0 {
		return n.found(known)
	}
	state := known.only(n.needed)
	led, seen := n.led[state]
	if !seen {
		for _, l := range n.found(known) {
			if n.leads(known, l) {
				led = append(led, l)
			}
		}
		n.led[state] = led
	}
	return led
}

// list returns n and all below it, each before those below it.
func (n *node) list() []*node {
	out := []*node{n}
	for _, b := range n.below {
		out = append(out, b.list()...)
	}
	return out
}

// search yields the valuations for which the first atom and the others become rows, each with the product of the counts.
func search(first part, others []part) iter.Seq2[values, int64] {
	return func(yield func(values, int64) bool) {
		if first.isEmpty() || slices.ContainsFunc(others, part.isEmpty) {
			return
		}
		walk(place(first, others, 0).list(), values{}, 1, yield)
	}
}

// walk yields what search does, from values and a product on that the atoms before these nodes have given, and reports whether the caller wants more.
func walk(nodes []*node, known values, product int64, yield func(values, int64) bool) bool {
	if len(nodes) == 0 {
		return yield(known, product)
	}
	n := nodes[0]
	for _, l := range n.leading(known) {
		if !walk(nodes[1:], n.with(known, l), times(product, l.count), yield) {
			return false
		}
	}
	return true
}

// times returns a product; or, instead of one that is too large, the least one that is.
func times(product, count int64) int64 {
	return max(-mostProduct-1, min(mostProduct+1, product*count))
}
