package pair

import (
	"iter"

	"minikin/small"
)

// pairing is a pairing of a web, and a search for a way from a point that is alone to another one, on which edges without and with a pair take turns (Edmonds' way).
//
// The search grows a tree. Outer points are those to which a way with an even number of edges leads: the root, and the mates of the others in the tree. Where two outer points are joined, the way round is odd: all points on it are outer then, and one blossom.
type pairing struct {
	*web
	mate  [mostPoints]int // the other point of each one's pair, or none
	base  [mostPoints]int // the point by which each one's blossom hangs on the tree, or the point itself
	from  [mostPoints]int // for a point that a way with an odd number of edges leads to, the outer point before it; otherwise none
	outer small.Set
	line  []int     // the outer points in the order in which they were found
	free  small.Set // the outer points of all searches that found no way
}

// greatest returns a greatest pairing of w.
func greatest(w *web) *pairing {
	p := &pairing{web: w}
	for point := range p.mate {
		p.mate[point] = none
	}
	for point := range p.points {
		if p.mate[point] != none {
			continue
		}
		p.search(point, p.turn)
		if p.mate[point] == none {
			// These are joined to no point outside the tree, so that no later way comes through it: each of them can be left alone in place of its root.
			p.free |= p.outer
		}
	}
	return p
}

// search looks for a way from root to another point that is alone, and tells found the end of the first one.
func (p *pairing) search(root int, found func(end int)) {
	for point := range p.points {
		p.base[point], p.from[point] = point, none
	}
	p.outer, p.line = 0, nil
	p.reach(root)
	for i := 0; i < len(p.line); i++ {
		at := p.line[i]
		for to := range p.joined[at].All() {
			switch {
			case p.outer.Has(to):
				p.shrink(at, to)
			case p.from[to] != none: // it is in the tree already
			case p.mate[to] == none:
				p.from[to] = at
				found(to)
				return
			default:
				p.from[to] = at
				p.reach(p.mate[to])
			}
		}
	}
}

// reach notes that point is outer.
func (p *pairing) reach(point int) {
	p.outer |= small.One(point)
	p.line = append(p.line, point)
}

// shrink makes one blossom of what lies between two outer points that are joined, unless it is one.
func (p *pairing) shrink(a, b int) {
	tip := p.meet(a, b)
	petals := p.petals(a, b, tip)
	petals |= p.petals(b, a, tip)
	for point := range p.points {
		if !petals.Has(p.base[point]) {
			continue
		}
		p.base[point] = tip
		if !p.outer.Has(point) {
			p.reach(point)
		}
	}
}

// bases walks over the bases of the outer points on the way from point to the root.
func (p *pairing) bases(point int) iter.Seq[int] {
	return func(yield func(int) bool) {
		for at := p.base[point]; yield(at) && p.mate[at] != none; {
			at = p.base[p.from[p.mate[at]]]
		}
	}
}

// meet returns the base in which the ways from a and b to the root meet.
func (p *pairing) meet(a, b int) int {
	met := small.Set(0)
	for base := range p.bases(a) {
		met |= small.One(base)
	}
	for base := range p.bases(b) {
		if met.Has(base) {
			return base
		}
	}
	return none // not reached: both have the root
}

// petals returns the bases on the way from point to the base tip, without that. A way that comes to them from the other side goes on by next.
func (p *pairing) petals(point, next, tip int) small.Set {
	out := small.Set(0)
	for p.base[point] != tip {
		mate := p.mate[point]
		out |= small.One(p.base[point]) | small.One(p.base[mate])
		p.from[point] = next
		point, next = p.from[mate], mate
	}
	return out
}

// turn pairs the points of the way that was found to end, so that it has one pair more.
func (p *pairing) turn(end int) {
	for end != none {
		before := p.from[end]
		next := p.mate[before]
		p.mate[end], p.mate[before] = before, end
		end = next
	}
}
