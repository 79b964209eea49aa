package flow

import (
	"slices"

	"minikin/api"
	"minikin/small"
)

// Apart returns as many ways from s to t as there can be without a common arc, and as many arcs, of which each way from s to t has one.
func Apart(n Net, s, t int) (ways [][]int, arcs []int, e api.Errno) {
	if e := checkEnds(&n, s, t); e != api.OK {
		return nil, nil, e
	}
	equal := Net{Places: n.Places, Arcs: slices.Clone(n.Arcs)}
	for i := range equal.Arcs {
		equal.Arcs[i].Cap = 1
	}
	w := lay(&equal, small.One(s), t)
	number := w.fill()
	flow := w.taken(len(equal.Arcs))
	for range number {
		ways = append(ways, unwind(equal, s, t, flow))
	}
	side := w.near()
	for i, a := range equal.Arcs {
		if side.Has(a.From) && !side.Has(a.To) {
			arcs = append(arcs, i)
		}
	}
	return ways, arcs, api.OK
}

// unwind takes a way from s to t, and loops that it meets, out of a flow of 1 and 0 with a value above 0.
func unwind(n Net, s, t int, flow []int64) []int {
	var way []int
	for at := s; at != t; {
		i := 0
		for n.Arcs[i].From != at || flow[i] == 0 {
			i++
		}
		flow[i] = 0
		way = append(way, i)
		at = n.Arcs[i].To
		begins := func(arc int) bool { return n.Arcs[arc].From == at }
		if k := slices.IndexFunc(way, begins); k >= 0 {
			way = way[:k]
		}
	}
	return way
}

// AreApart reports whether ways are ways from s to t of which no two have a common arc.
func AreApart(n Net, s, t int, ways [][]int) bool {
	if checkEnds(&n, s, t) != api.OK {
		return false
	}
	var used [mostSteps]bool
	for _, way := range ways {
		if !isWay(n, s, t, way) {
			return false
		}
		for _, i := range way {
			if used[i] {
				return false
			}
			used[i] = true
		}
	}
	return true
}

// isWay reports whether way leads from s to t without a place twice.
func isWay(n Net, s, t int, way []int) bool {
	at, met := s, small.One(s)
	for _, i := range way {
		if i < 0 || i >= len(n.Arcs) || n.Arcs[i].From != at || met.Has(n.Arcs[i].To) {
			return false
		}
		at = n.Arcs[i].To
		met |= small.One(at)
	}
	return at == t
}
