package pair_test

import (
	"math"
	"math/rand"
	"reflect"
	"slices"
	"testing"

	"minikin/api"
	"minikin/pair"
)

// copied returns a graph equal to g whose slice ends in the middle of an array.
func copied(g pair.Graph) pair.Graph {
	edges := append(slices.Clone(g.Edges), [2]int{-1, -1})
	return pair.Graph{Points: g.Points, Edges: edges[:len(g.Edges)]}
}

// complete returns a graph with the first edges of all that there can be.
func complete(points, edges int) pair.Graph {
	g := pair.Graph{Points: points}
	for b := range points {
		for a := range b {
			g.Edges = append(g.Edges, [2]int{b, a})
		}
	}
	g.Edges = g.Edges[:edges]
	return g
}

// random returns a graph with up to that many edges, some of them turned.
func random(r *rand.Rand, points, edges int) pair.Graph {
	g := complete(points, points*(points-1)/2)
	r.Shuffle(len(g.Edges), func(i, k int) { g.Edges[i], g.Edges[k] = g.Edges[k], g.Edges[i] })
	g.Edges = g.Edges[:min(edges, len(g.Edges))]
	for i, x := range g.Edges {
		if r.Intn(2) == 0 {
			g.Edges[i] = [2]int{x[1], x[0]}
		}
	}
	return g
}

// renamed returns g with other numbers for its points, and its edges in another order.
func renamed(r *rand.Rand, g pair.Graph) pair.Graph {
	name := r.Perm(g.Points)
	out := pair.Graph{Points: g.Points}
	for _, i := range r.Perm(len(g.Edges)) {
		out.Edges = append(out.Edges, [2]int{name[g.Edges[i][0]], name[g.Edges[i][1]]})
	}
	return out
}

// joined is the definition of an edge between a and b.
func joined(g pair.Graph, a, b int) bool {
	return slices.Contains(g.Edges, [2]int{a, b}) || slices.Contains(g.Edges, [2]int{b, a})
}

// isPairing is the definition of a pairing.
func isPairing(g pair.Graph, mate []int) (int, bool) {
	if len(mate) != g.Points {
		return 0, false
	}
	paired := 0
	for a, b := range mate {
		if b == -1 {
			continue
		}
		if b < 0 || b >= g.Points || mate[b] != a || !joined(g, a, b) {
			return 0, false
		}
		paired++
	}
	return paired / 2, true
}

// pairings yields all pairings of g; the list must not be kept.
func pairings(g pair.Graph, visit func(mate []int, pairs int)) {
	mate := slices.Repeat([]int{-1}, g.Points)
	var next func(i, pairs int)
	next = func(i, pairs int) {
		if i == len(g.Edges) {
			visit(mate, pairs)
			return
		}
		next(i+1, pairs)
		if a, b := g.Edges[i][0], g.Edges[i][1]; mate[a] == -1 && mate[b] == -1 {
			mate[a], mate[b] = b, a
			next(i+1, pairs+1)
			mate[a], mate[b] = -1, -1
		}
	}
	next(0, 0)
}

// parts returns the parts into which the points of in fall.
func parts(g pair.Graph, in []int) [][]int {
	var out [][]int
	met := map[int]bool{}
	var walk func(p int) []int
	walk = func(p int) []int {
		met[p] = true
		part := []int{p}
		for _, q := range in {
			if !met[q] && joined(g, p, q) {
				part = append(part, walk(q)...)
			}
		}
		return part
	}
	for _, p := range in {
		if !met[p] {
			out = append(out, walk(p))
		}
	}
	return out
}

// without returns the points of g that are not in set.
func without(g pair.Graph, set ...int) []int {
	var out []int
	for p := range g.Points {
		if !slices.Contains(set, p) {
			out = append(out, p)
		}
	}
	return out
}

// barred returns twice the number of pairs for which set is a barrier.
func barred(g pair.Graph, set []int) int {
	odd := 0
	for _, part := range parts(g, without(g, set...)) {
		odd += len(part) % 2
	}
	return g.Points + len(set) - odd
}

func rises(l []int, points int) bool {
	for i, p := range l {
		if p < 0 || p >= points || i > 0 && p <= l[i-1] {
			return false
		}
	}
	return true
}

// proved checks Match and Barrier against each other, and returns the number of pairs of a greatest pairing.
func proved(t *testing.T, g pair.Graph) int {
	t.Helper()
	kept := copied(g)
	mate, e := pair.Match(g)
	pairs, ok := isPairing(g, mate)
	set, f := pair.Barrier(g)
	if !ok || e != api.OK || f != api.OK || !rises(set, g.Points) || barred(g, set) != 2*pairs {
		t.Fatalf("%v: %v, %v, %d, %d", g, mate, set, e, f)
	}
	if n, ok := pair.IsPairing(g, mate); n != pairs || !ok || !pair.IsBarrier(g, set, pairs) {
		t.Fatalf("%v: %v, %d, %v", g, mate, n, set)
	}
	if again, _ := pair.Match(kept); !slices.Equal(again, mate) || !slices.Equal(g.Edges, kept.Edges) {
		t.Fatalf("%v, then %v: %v, then %v", kept, g, mate, again)
	}
	return pairs
}

func TestCheck(t *testing.T) {
	far := pair.Graph{Points: 40, Edges: [][2]int{{39, 0}, {0, 38}}}
	for _, c := range []struct {
		g pair.Graph
		e api.Errno
	}{
		{pair.Graph{}, api.ErrGraph},
		{pair.Graph{Points: -1}, api.ErrGraph},
		{pair.Graph{Points: math.MinInt}, api.ErrGraph},
		{pair.Graph{Points: math.MaxInt}, api.ErrGraph},
		{pair.Graph{Points: 41}, api.ErrGraph},
		{pair.Graph{Points: 41, Edges: [][2]int{{0, 1}}}, api.ErrGraph},
		{pair.Graph{Points: 1}, api.OK},
		{pair.Graph{Points: 40}, api.OK},
		{far, api.OK},
		{complete(25, 300), api.OK},
		{complete(40, 300), api.OK},
		{complete(26, 301), api.ErrGraph},
		{complete(40, 301), api.ErrGraph},
		{complete(24, 276), api.OK},
		{pair.Graph{Points: 2, Edges: [][2]int{{0, 1}}}, api.OK},
		{pair.Graph{Points: 2, Edges: [][2]int{{1, 0}}}, api.OK},
		{pair.Graph{Points: 2, Edges: [][2]int{{1, 1}}}, api.ErrGraph},
		{pair.Graph{Points: 1, Edges: [][2]int{{0, 0}}}, api.ErrGraph},
		{pair.Graph{Points: 2, Edges: [][2]int{{0, 1}, {0, 1}}}, api.ErrGraph},
		{pair.Graph{Points: 2, Edges: [][2]int{{0, 1}, {1, 0}}}, api.ErrGraph},
		{pair.Graph{Points: 4, Edges: [][2]int{{3, 2}, {0, 1}, {1, 2}, {2, 3}}}, api.ErrGraph},
		{pair.Graph{Points: 3, Edges: [][2]int{{0, 3}}}, api.ErrGraph},
		{pair.Graph{Points: 3, Edges: [][2]int{{3, 0}}}, api.ErrGraph},
		{pair.Graph{Points: 3, Edges: [][2]int{{0, 1}, {-1, 2}}}, api.ErrGraph},
		{pair.Graph{Points: 3, Edges: [][2]int{{0, 1}, {2, math.MinInt}}}, api.ErrGraph},
		{pair.Graph{Points: 3, Edges: [][2]int{{math.MaxInt, 2}}}, api.ErrGraph},
		{pair.Graph{Points: 3, Edges: [][2]int{{math.MaxInt, math.MinInt}}}, api.ErrGraph},
	} {
		if e := pair.Check(c.g); e != c.e {
			t.Errorf("Check(%v): %d, not %d", c.g, e, c.e)
		}
		if c.e == api.OK {
			proved(t, c.g)
		} else {
			refused(t, c.g)
		}
	}
}

// refused calls all functions with no graph.
func refused(t *testing.T, g pair.Graph) {
	if l, e := pair.Match(g); len(l) != 0 || e != api.ErrGraph {
		t.Errorf("Match(%v): %v, %d", g, l, e)
	}
	for _, mate := range [][]int{nil, {-1}, {-1, -1}, {1, 0}, {-1, -1, -1}, slices.Repeat([]int{-1}, 41)} {
		if n, ok := pair.IsPairing(g, mate); n != 0 || ok {
			t.Errorf("IsPairing(%v): %d", g, n)
		}
	}
	if l, e := pair.Barrier(g); len(l) != 0 || e != api.ErrGraph {
		t.Errorf("Barrier(%v): %v, %d", g, l, e)
	}
	for pairs := range 21 {
		if pair.IsBarrier(g, nil, pairs) || pair.IsBarrier(g, []int{0}, pairs) {
			t.Errorf("IsBarrier(%v, %d)", g, pairs)
		}
	}
	if p, e := pair.Divide(g); len(p.Free)+len(p.Next)+len(p.Rest) != 0 || e != api.ErrGraph {
		t.Errorf("Divide(%v): %v, %d", g, p, e)
	}
	if l, ok, e := pair.Cover(g); len(l) != 0 || ok || e != api.ErrGraph {
		t.Errorf("Cover(%v): %v, %v, %d", g, l, ok, e)
	}
}

// TestKnown has graphs whose greatest pairings are known.
func TestKnown(t *testing.T) {
	ring := func(points int) pair.Graph {
		g := pair.Graph{Points: points}
		for p := range points {
			g.Edges = append(g.Edges, [2]int{p, (p + 1) % points})
		}
		return g
	}
	star := pair.Graph{Points: 40}
	for p := 1; p < 40; p++ {
		star.Edges = append(star.Edges, [2]int{p, 0})
	}
	// Three triangles hang on one point each of a triangle, and a point on each of theirs.
	tree := pair.Graph{Points: 15, Edges: [][2]int{{0, 1}, {1, 2}, {2, 0}}}
	for k := range 3 {
		a := 3 + 4*k
		tree.Edges = append(tree.Edges, [][2]int{{k, a}, {a, a + 1}, {a + 1, a + 2}, {a + 2, a}, {a + 2, a + 3}}...)
	}
	for _, c := range []struct {
		g     pair.Graph
		pairs int
	}{
		{pair.Graph{Points: 1}, 0},
		{pair.Graph{Points: 40}, 0},
		{pair.Graph{Points: 4, Edges: [][2]int{{0, 1}, {1, 2}, {2, 0}, {2, 3}}}, 2},
		{ring(3), 1}, {ring(4), 2}, {ring(5), 2}, {ring(39), 19}, {ring(40), 20},
		{complete(25, 300), 12}, {complete(24, 276), 12}, {complete(40, 300), 12},
		{star, 1}, {tree, 7},
	} {
		if pairs := proved(t, c.g); pairs != c.pairs {
			t.Errorf("%v: %d pairs, not %d", c.g, pairs, c.pairs)
		}
	}
}

// TestLarge compares greatest pairings of large graphs with barriers.
func TestLarge(t *testing.T) {
	r := rand.New(rand.NewSource(1))
	for i := range 6000 {
		proved(t, random(r, 1+r.Intn(40), r.Intn(20+i%281)))
	}
}

// TestFlowers has odd cycles that lie in one another, of which all points are paired in just one way or a few.
func TestFlowers(t *testing.T) {
	r := rand.New(rand.NewSource(2))
	for range 3000 {
		g := pair.Graph{Points: 1}
		for g.Points < 36 {
			// An odd number of edges from one point to another one, or to the same, makes a new ear.
			from, to := r.Intn(g.Points), r.Intn(g.Points)
			for range 2 + 2*r.Intn(2) {
				g.Edges = append(g.Edges, [2]int{from, g.Points})
				from = g.Points
				g.Points++
			}
			g.Edges = append(g.Edges, [2]int{from, to})
		}
		odd := g.Points / 2
		if g = renamed(r, g); proved(t, g) != odd {
			t.Fatalf("%v: not %d pairs", g, odd)
		}
		if p, _ := pair.Divide(g); len(p.Free) != g.Points {
			t.Fatalf("%v: %v", g, p)
		}
		g.Edges = append(g.Edges, [2]int{r.Intn(g.Points), g.Points})
		g.Points++
		if g = renamed(r, g); proved(t, g) != odd+1 {
			t.Fatalf("%v: not %d pairs", g, odd+1)
		}
	}
}

func TestIsPairing(t *testing.T) {
	g := pair.Graph{Points: 5, Edges: [][2]int{{0, 1}, {2, 1}, {2, 0}, {2, 3}}}
	for _, c := range []struct {
		mate  []int
		pairs int
		ok    bool
	}{
		{[]int{-1, -1, -1, -1, -1}, 0, true},
		{[]int{1, 0, -1, -1, -1}, 1, true},
		{[]int{1, 0, 3, 2, -1}, 2, true},
		{[]int{2, -1, 0, -1, -1}, 1, true},
		{[]int{1, 0, 3, 2}, 0, false},
		{[]int{1, 0, 3, 2, -1, -1}, 0, false},
		{nil, 0, false},
		{[]int{1, -1, -1, -1, -1}, 0, false},
		{[]int{1, 2, 0, -1, -1}, 0, false},
		{[]int{3, -1, -1, 0, -1}, 0, false},
		{[]int{1, 0, -1, 4, 3}, 0, false},
		{[]int{0, -1, -1, -1, -1}, 0, false},
		{[]int{1, 0, -1, -1, 5}, 0, false},
		{[]int{1, 0, -1, -1, -2}, 0, false},
		{[]int{1, 0, math.MaxInt, -1, -1}, 0, false},
		{[]int{1, 0, math.MinInt, -1, -1}, 0, false},
	} {
		if n, ok := pair.IsPairing(g, c.mate); n != c.pairs || ok != c.ok {
			t.Errorf("IsPairing(%v): %d, %v", c.mate, n, ok)
		}
	}
	r := rand.New(rand.NewSource(3))
	found := 0
	for range 30000 {
		g := random(r, 1+r.Intn(4), r.Intn(7))
		mate := make([]int, g.Points)
		for p := range mate {
			mate[p] = r.Intn(g.Points+2) - 1
		}
		pairs, is := isPairing(g, mate)
		if n, ok := pair.IsPairing(g, mate); n != pairs || ok != is {
			t.Fatalf("IsPairing(%v, %v): %d, %v", g, mate, n, ok)
		}
		if is && pairs > 0 {
			found++
		}
	}
	if found < 500 {
		t.Errorf("only %d pairings", found)
	}
}

func TestIsBarrier(t *testing.T) {
	star := pair.Graph{Points: 4, Edges: [][2]int{{0, 1}, {0, 2}, {0, 3}}}
	for _, c := range []struct {
		set   []int
		pairs int
		ok    bool
	}{
		{[]int{0}, 1, true},
		{[]int{0}, 0, false},
		{[]int{0}, 2, false},
		{[]int{0}, math.MinInt + 1, false},
		{[]int{0}, 1 + math.MinInt/2, false},
		{[]int{0}, -1, false},
		{nil, 2, true},
		{[]int{}, 1, false},
		{[]int{1}, 2, true},
		{[]int{0, 1}, 2, true},
		{[]int{0, 1, 2}, 3, true},
		{[]int{0, 1, 2, 3}, 4, true},
		{[]int{1, 0}, 2, false},
		{[]int{0, 0}, 1, false},
		{[]int{0, 0}, 2, false},
		{[]int{0, 4}, 2, false},
		{[]int{4}, 1, false},
		{[]int{-1, 0}, 1, false},
		{[]int{-1}, 2, false},
		{[]int{math.MinInt}, 2, false},
		{[]int{math.MaxInt}, 2, false},
	} {
		if ok := pair.IsBarrier(star, c.set, c.pairs); ok != c.ok {
			t.Errorf("IsBarrier(%v, %d): %v", c.set, c.pairs, ok)
		}
	}
	if !pair.IsBarrier(pair.Graph{Points: 1}, nil, 0) || pair.IsBarrier(pair.Graph{Points: 1}, nil, 1) {
		t.Error("IsBarrier of a point")
	}
}

// TestMemory writes over results, and to what lies beyond their lengths.
func TestMemory(t *testing.T) {
	g := pair.Graph{Points: 7, Edges: [][2]int{{0, 1}, {0, 2}, {0, 3}, {4, 5}, {5, 6}}}
	spoil := func(lists ...[]int) {
		for _, l := range lists {
			_ = append(l, -5)
			for i := range l {
				l[i] = -5
			}
		}
	}
	p, _ := pair.Divide(g)
	_ = append(p.Free, -5)
	_ = append(p.Next, -5)
	_ = append(p.Rest, -5)
	if !reflect.DeepEqual(p, pair.Parts{Free: []int{1, 2, 3, 4, 6}, Next: []int{0, 5}}) {
		t.Errorf("Divide: %v", p)
	}
	mate, _ := pair.Match(g)
	set, _ := pair.Barrier(g)
	cover, _, _ := pair.Cover(g)
	spoil(mate, set, cover, p.Free, p.Next, p.Rest)
	if pairs := proved(t, g); pairs != 2 {
		t.Errorf("%d pairs", pairs)
	}
	set = []int{0, 5}
	if mate = []int{1, 0, -1, -1, 5, 4, -1}; !pair.IsBarrier(g, set, 2) || !slices.Equal(set, []int{0, 5}) {
		t.Errorf("IsBarrier: %v", set)
	}
	if n, ok := pair.IsPairing(g, mate); n != 2 || !ok || !slices.Equal(mate, []int{1, 0, -1, -1, 5, 4, -1}) {
		t.Errorf("IsPairing: %v", mate)
	}
}
