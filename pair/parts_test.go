package pair_test

import (
	"math/rand"
	"reflect"
	"slices"
	"testing"

	"minikin/api"
	"minikin/pair"
)

// division is the definition of the parts, by the points that some greatest pairing leaves alone.
func division(g pair.Graph, free func(p int) bool) pair.Parts {
	var out pair.Parts
	for p := range g.Points {
		if free(p) {
			out.Free = append(out.Free, p)
		}
	}
	for _, p := range without(g, out.Free...) {
		if slices.ContainsFunc(out.Free, func(q int) bool { return joined(g, p, q) }) {
			out.Next = append(out.Next, p)
		} else {
			out.Rest = append(out.Rest, p)
		}
	}
	return out
}

// within returns the graph that in and the edges between its points make.
func within(g pair.Graph, in []int) pair.Graph {
	out := pair.Graph{Points: len(in)}
	for _, x := range g.Edges {
		a, b := slices.Index(in, x[0]), slices.Index(in, x[1])
		if a >= 0 && b >= 0 {
			out.Edges = append(out.Edges, [2]int{a, b})
		}
	}
	return out
}

// whole reports whether the points of in can be paired as a whole.
func whole(t *testing.T, g pair.Graph, in []int) bool {
	return len(in) == 0 || proved(t, within(g, in))*2 == len(in)
}

// divided checks Divide by the definition and P4.6 by a greatest pairing.
func divided(t *testing.T, g pair.Graph, want pair.Parts) {
	t.Helper()
	kept := copied(g)
	got, e := pair.Divide(g)
	if !reflect.DeepEqual(got, want) || e != api.OK || !slices.Equal(g.Edges, kept.Edges) {
		t.Fatalf("Divide(%v): %v, %d, not %v", g, got, e, want)
	}
	mate, _ := pair.Match(g)
	pairs, _ := isPairing(g, mate)
	if !pair.IsBarrier(g, got.Next, pairs) {
		t.Fatalf("%v: %v is no barrier for %d", g, got.Next, pairs)
	}
	apart(t, g, got, mate)
	if !whole(t, g, got.Rest) {
		t.Fatalf("%v: rest %v", g, got.Rest)
	}
	for _, part := range parts(g, got.Free) {
		for i := range part {
			if !whole(t, g, slices.Delete(slices.Clone(part), i, i+1)) {
				t.Fatalf("%v: part %v without %d", g, part, part[i])
			}
		}
	}
}

// apart checks that a greatest pairing pairs no two points of Next, nor one of Next with one of Rest.
func apart(t *testing.T, g pair.Graph, p pair.Parts, mate []int) {
	for _, a := range p.Next {
		if !slices.Contains(p.Free, mate[a]) {
			t.Fatalf("%v: %v pairs %d with %d", g, mate, a, mate[a])
		}
	}
	for _, a := range p.Rest {
		if !slices.Contains(p.Rest, mate[a]) {
			t.Fatalf("%v: %v pairs %d with %d", g, mate, a, mate[a])
		}
	}
}

// subsets returns all rising lists of points of g.
func subsets(g pair.Graph) [][]int {
	out := [][]int{nil}
	for p := range g.Points {
		for _, l := range out {
			out = append(out, append(slices.Clone(l), p))
		}
	}
	return out
}

// defined checks all functions with g against all pairings and all sets.
func defined(t *testing.T, g pair.Graph) {
	t.Helper()
	most := 0
	pairings(g, func(mate []int, pairs int) { most = max(most, pairs) })
	alone := map[int]bool{}
	pairings(g, func(mate []int, pairs int) {
		for p, q := range mate {
			if pairs == most && q == -1 {
				alone[p] = true
			}
		}
	})
	if pairs := proved(t, g); pairs != most {
		t.Fatalf("%v: %d pairs, not %d", g, pairs, most)
	}
	want := division(g, func(p int) bool { return alone[p] })
	divided(t, g, want)
	pairings(g, func(mate []int, pairs int) {
		if pairs == most {
			apart(t, g, want, mate)
		}
	})
	least := g.Points
	for _, set := range subsets(g) {
		twice := barred(g, set)
		least = min(least, twice)
		for pairs := range g.Points + 2 {
			if pair.IsBarrier(g, set, pairs) != (2*pairs == twice) {
				t.Fatalf("IsBarrier(%v, %v, %d)", g, set, pairs)
			}
		}
	}
	if least != 2*most { // P4.5: there is a barrier for the greatest pairings, and none for fewer pairs
		t.Fatalf("%v: %d pairs, but a barrier for %d points", g, most, least)
	}
	covered(t, g, most)
}

// TestSmall looks at all graphs with up to 5 points.
func TestSmall(t *testing.T) {
	for points := 1; points <= 5; points++ {
		all := complete(points, points*(points-1)/2)
		for in := range 1 << len(all.Edges) {
			g := pair.Graph{Points: points}
			for i, x := range all.Edges {
				if in>>i&1 == 1 {
					g.Edges = append(g.Edges, x)
				}
			}
			defined(t, g)
		}
	}
}

// TestMiddling looks at some graphs with 6 to 9 points.
func TestMiddling(t *testing.T) {
	r := rand.New(rand.NewSource(11))
	for range 400 {
		points := 6 + r.Intn(4)
		defined(t, random(r, points, points/2+r.Intn(points)))
	}
}

// TestLargeParts finds free points by greatest pairings of the graph without each one.
func TestLargeParts(t *testing.T) {
	r := rand.New(rand.NewSource(12))
	mixed := 0
	for range 150 {
		points := 20 + r.Intn(21)
		g := random(r, points, points/2+r.Intn(points))
		pairs := proved(t, g)
		want := division(g, func(p int) bool {
			return proved(t, within(g, without(g, p))) == pairs
		})
		divided(t, g, want)
		if len(want.Free) > 0 && len(want.Next) > 0 && len(want.Rest) > 0 {
			mixed++
		}
	}
	if mixed < 50 {
		t.Errorf("only %d with all three parts", mixed)
	}
}

func TestDivideExamples(t *testing.T) {
	for _, c := range []struct {
		g pair.Graph
		p pair.Parts
	}{
		{pair.Graph{Points: 4, Edges: [][2]int{{0, 1}, {1, 2}, {2, 0}, {2, 3}}}, pair.Parts{Rest: []int{0, 1, 2, 3}}},
		{pair.Graph{Points: 3, Edges: [][2]int{{0, 1}, {1, 2}, {2, 0}}}, pair.Parts{Free: []int{0, 1, 2}}},
		{pair.Graph{Points: 4, Edges: [][2]int{{0, 1}, {0, 2}, {0, 3}}}, pair.Parts{Free: []int{1, 2, 3}, Next: []int{0}}},
		{pair.Graph{Points: 4, Edges: [][2]int{{1, 2}}}, pair.Parts{Free: []int{0, 3}, Rest: []int{1, 2}}},
		{pair.Graph{Points: 3}, pair.Parts{Free: []int{0, 1, 2}}},
	} {
		divided(t, c.g, c.p)
	}
}

// twoSides reports whether g has no cycle with an odd number of edges: its points can be laid on two sides.
func twoSides(g pair.Graph) bool {
	side := map[int]int{}
	var lay func(p, at int) bool
	lay = func(p, at int) bool {
		if side[p] != 0 {
			return side[p] == at
		}
		side[p] = at
		for q := range g.Points {
			if joined(g, p, q) && !lay(q, -at) {
				return false
			}
		}
		return true
	}
	for p := range g.Points {
		if side[p] == 0 && !lay(p, 1) {
			return false
		}
	}
	return true
}

// covered checks Cover, for a graph whose greatest pairings have that many pairs.
func covered(t *testing.T, g pair.Graph, pairs int) bool {
	t.Helper()
	kept := copied(g)
	cover, ok, e := pair.Cover(g)
	if ok != twoSides(g) || e != api.OK || !slices.Equal(g.Edges, kept.Edges) {
		t.Fatalf("Cover(%v): %v, %v, %d", g, cover, ok, e)
	}
	if !ok {
		if len(cover) != 0 {
			t.Fatalf("Cover(%v): %v", g, cover)
		}
		return false
	}
	if len(cover) != pairs || !rises(cover, g.Points) {
		t.Fatalf("Cover(%v): %v, not %d points", g, cover, pairs)
	}
	for _, x := range g.Edges {
		if !slices.Contains(cover, x[0]) && !slices.Contains(cover, x[1]) {
			t.Fatalf("Cover(%v): %v without %v", g, cover, x)
		}
	}
	mate, _ := pair.Match(g)
	for _, p := range cover { // one point for each pair
		if mate[p] == -1 || slices.Contains(cover, mate[p]) {
			t.Fatalf("Cover(%v): %v, pairing %v", g, cover, mate)
		}
	}
	return true
}

// TestCover has graphs with two sides, and the same with an edge more, which may make an odd cycle.
func TestCover(t *testing.T) {
	r := rand.New(rand.NewSource(13))
	covers, odd := 0, 0
	for range 2000 {
		points := 1 + r.Intn(40)
		left := r.Intn(points + 1)
		g := random(r, points, points*(points-1)/2)
		same := func(x [2]int) bool { return (x[0] < left) == (x[1] < left) }
		g.Edges = slices.DeleteFunc(g.Edges, same)
		g.Edges = g.Edges[:min(r.Intn(2*points+1), len(g.Edges))]
		if g = renamed(r, g); !covered(t, g, proved(t, g)) {
			t.Fatalf("no cover of %v", g)
		}
		covers++
		if a, b := r.Intn(points), r.Intn(points); a != b && !joined(g, a, b) {
			g.Edges = append(g.Edges, [2]int{a, b})
			if !covered(t, g, proved(t, g)) {
				odd++
			}
		}
	}
	if covers < 1000 || odd < 100 {
		t.Errorf("%d covers, %d with odd cycles", covers, odd)
	}
}
