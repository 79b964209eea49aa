package pair

import (
	"minikin/api"
	"minikin/small"
)

// Limits of graphs.
const (
	mostPoints = 40
	mostEdges  = 300
)

// edge joins two points, of which a is the lesser one.
type edge struct {
	a, b int
}

// web is a graph by the points to which each point is joined.
type web struct {
	points int
	joined [mostPoints]small.Set
}

// lay returns the web of g, or ErrGraph if g is no graph.
func lay(g Graph) (*web, api.Errno) {
	if g.Points < 1 || g.Points > mostPoints || len(g.Edges) > mostEdges {
		return nil, api.ErrGraph
	}
	w := &web{points: g.Points}
	equal := map[edge]int{}
	for _, x := range g.Edges {
		y := edge{a: min(x[0], x[1]), b: max(x[0], x[1])}
		equal[y]++
		if y.a < 0 || y.b >= g.Points || y.a == y.b || equal[y] > 1 {
			return nil, api.ErrGraph
		}
		w.joined[y.a] |= small.One(y.b)
		w.joined[y.b] |= small.One(y.a)
	}
	return w, api.OK
}

func (w *web) all() small.Set {
	return small.Below(w.points)
}

// around returns the points that are joined to one of s.
func (w *web) around(s small.Set) small.Set {
	out := small.Set(0)
	for p := range s.All() {
		out |= w.joined[p]
	}
	return out
}

// odd returns the number of the parts of odd size into which the points of left fall.
func (w *web) odd(left small.Set) int {
	number := 0
	for left != 0 {
		part := small.One(left.First())
		for more := part; more != 0; part |= more {
			more = w.around(part) & left &^ part
		}
		number += part.Size() % 2
		left &^= part
	}
	return number
}

// side returns points of which each edge joins one with another point, and whether there are such points.
func (w *web) side() (small.Set, bool) {
	side := small.Set(0)
	for left := w.all(); left != 0; {
		ring := small.One(left.First())
		for even := true; ring != 0; even = !even { // ring is at one distance from the first point, then at the next one
			if even {
				side |= ring
			}
			left &^= ring
			ring = w.around(ring) & left
		}
	}
	other := w.all() &^ side
	return side, w.around(side)&side == 0 && w.around(other)&other == 0
}

// divide returns the parts of w.
func (w *web) divide() (free, next, rest small.Set) {
	free = greatest(w).free
	next = w.around(free) &^ free
	return free, next, w.all() &^ free &^ next
}
