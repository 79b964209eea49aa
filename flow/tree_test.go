package flow_test

import (
	"math"
	"math/rand"
	"slices"
	"testing"

	"minikin/api"
	"minikin/flow"
)

// board returns the board with a link for each arc of n.
func board(n flow.Net) flow.Board {
	b := flow.Board{Places: n.Places}
	for _, a := range n.Arcs {
		b.Links = append(b.Links, flow.Link{A: a.From, B: a.To, Cap: a.Cap})
	}
	return b
}

// both returns the network with an arc in each direction for each link of b.
func both(b flow.Board) flow.Net {
	n := flow.Net{Places: b.Places}
	for _, l := range b.Links {
		n.Arcs = append(n.Arcs, flow.Arc{From: l.A, To: l.B, Cap: l.Cap}, flow.Arc{From: l.B, To: l.A, Cap: l.Cap})
	}
	return n
}

func triangle() flow.Board {
	return flow.Board{Places: 3, Links: []flow.Link{{A: 0, B: 1, Cap: 2}, {A: 1, B: 2, Cap: 3}, {A: 2, B: 0, Cap: 4}}}
}

// sideOf returns the places that the branches but one join to place p.
func sideOf(l []flow.Branch, p, but int) int {
	side := 1 << p
	for range l {
		for i, x := range l {
			if i != but && (side>>x.A&1 == 1 || side>>x.B&1 == 1) {
				side |= 1<<x.A | 1<<x.B
			}
		}
	}
	return side
}

// isTree is the definition of a tree for a board with few places.
func isTree(b flow.Board, l []flow.Branch) bool {
	if len(l) != b.Places-1 {
		return false
	}
	for _, x := range l {
		if x.A < 0 || x.A >= b.Places || x.B < 0 || x.B >= b.Places {
			return false
		}
	}
	if sideOf(l, 0, -1) != 1<<b.Places-1 {
		return false
	}
	n := both(b)
	for i, x := range l {
		least, _, _ := leastCut(n, x.A, x.B)
		if x.Weight != least || capacity(n, sideOf(l, x.A, i)) != least {
			return false
		}
	}
	return true
}

func TestTriangle(t *testing.T) {
	b := triangle()
	for _, c := range [][3]int{{0, 1, 5}, {1, 2, 5}, {2, 0, 6}} {
		for _, p := range [][2]int{{c[0], c[1]}, {c[1], c[0]}} {
			if v, e := flow.Least(b, p[0], p[1]); v != int64(c[2]) || e != api.OK {
				t.Errorf("Least(%v): %d, %d", p, v, e)
			}
		}
	}
	if v, set, e := flow.Weakest(b); v != 5 || !slices.Equal(set, []int{0, 2}) || e != api.OK {
		t.Errorf("Weakest: %d, %v, %d", v, set, e)
	}
	for _, c := range []struct {
		l  []flow.Branch
		ok bool
	}{
		{[]flow.Branch{{A: 0, B: 2, Weight: 6}, {A: 1, B: 2, Weight: 5}}, true},
		{[]flow.Branch{{A: 2, B: 1, Weight: 5}, {A: 2, B: 0, Weight: 6}}, true},
		{[]flow.Branch{{A: 0, B: 2, Weight: 6}, {A: 1, B: 0, Weight: 5}}, false}, // 0 and 1 are a cut of 7
		{[]flow.Branch{{A: 0, B: 1, Weight: 5}, {A: 1, B: 2, Weight: 5}}, false}, // 0 is a cut of 6
		{[]flow.Branch{{A: 0, B: 2, Weight: 6}, {A: 1, B: 2, Weight: 4}}, false},
		{[]flow.Branch{{A: 0, B: 2, Weight: 7}, {A: 1, B: 2, Weight: 5}}, false},
		{[]flow.Branch{{A: 0, B: 2, Weight: 6}, {A: 2, B: 0, Weight: 6}}, false},
		{[]flow.Branch{{A: 0, B: 2, Weight: 6}, {A: 1, B: 1, Weight: 5}}, false},
		{[]flow.Branch{{A: 0, B: 2, Weight: 6}, {A: 1, B: 3, Weight: 5}}, false},
		{[]flow.Branch{{A: 0, B: 2, Weight: 6}, {A: 1, B: -1, Weight: 5}}, false},
		{[]flow.Branch{{A: math.MinInt, B: 2, Weight: 6}, {A: 1, B: math.MaxInt, Weight: 5}}, false},
		{[]flow.Branch{{A: 0, B: 2, Weight: 6}}, false},
		{[]flow.Branch{{A: 0, B: 2, Weight: 6}, {A: 1, B: 2, Weight: 5}, {A: 1, B: 2, Weight: 5}}, false},
		{[]flow.Branch{{A: 0, B: 2, Weight: 6}, {A: 1, B: 2, Weight: 5}, {A: 2, B: 3, Weight: 0}}, false},
		{nil, false},
	} {
		if ok := flow.IsTree(b, c.l); ok != c.ok || ok != isTree(b, c.l) {
			t.Errorf("IsTree(%v): %v", c.l, ok)
		}
	}
}

// TestTrees compares Least, Tree, Between and Weakest with all cuts.
func TestTrees(t *testing.T) {
	r := rand.New(rand.NewSource(21))
	for range 1500 {
		b := board(random(r, 2+r.Intn(6), r.Intn(16)))
		n := both(b)
		kept := slices.Clone(b.Links)
		l, e := flow.Tree(b)
		if e != api.OK || !isTree(b, l) || !flow.IsTree(b, l) {
			t.Fatalf("Tree(%v): %v, %d", b, l, e)
		}
		different := map[int64]bool{}
		for x := range b.Places {
			for y := range b.Places {
				if x == y {
					continue
				}
				least, _, _ := leastCut(n, x, y)
				different[least] = true
				if v, e := flow.Least(b, x, y); v != least || e != api.OK {
					t.Fatalf("Least(%v, %d, %d): %d, %d, not %d", b, x, y, v, e, least)
				}
				if v, e := flow.Between(l, x, y); v != least || e != api.OK {
					t.Fatalf("Between(%v, %d, %d): %d, %d, not %d", l, x, y, v, e, least)
				}
			}
		}
		if len(different) > b.Places-1 {
			t.Fatalf("%v: %d different cuts", b, len(different))
		}
		if !slices.Equal(kept, b.Links) {
			t.Fatal("an argument was changed")
		}
	}
}

// TestLargeTrees: P3.7, and the first part of P3.8, for boards at the limits.
func TestLargeTrees(t *testing.T) {
	r := rand.New(rand.NewSource(22))
	for k := range 60 {
		b := board(random(r, 20+k%5, 200))
		l, e := flow.Tree(b)
		if e != api.OK || len(l) != b.Places-1 || !flow.IsTree(b, l) {
			t.Fatalf("Tree(%v): %v, %d", b, l, e)
		}
		var cuts [24][24]int64
		for x := range b.Places {
			for y := range b.Places {
				if x == y {
					continue
				}
				v, _ := flow.Least(b, x, y)
				w, e := flow.Between(l, x, y)
				if v != w || e != api.OK {
					t.Fatalf("Between(%v, %d, %d): %d, %d, not %d", l, x, y, w, e, v)
				}
				value, _, _ := flow.Most(both(flow.Board{Places: b.Places, Links: b.Links[:min(100, len(b.Links))]}), x, y)
				if len(b.Links) <= 100 && value != v || value > v {
					t.Fatalf("Least(%v, %d, %d): %d, a flow of %d", b, x, y, v, value)
				}
				cuts[x][y] = v
			}
		}
		for range 1000 {
			x, y, z := r.Intn(b.Places), r.Intn(b.Places), r.Intn(b.Places)
			if x != y && y != z && x != z && cuts[x][z] < min(cuts[x][y], cuts[y][z]) {
				t.Fatalf("%v: cuts of %d, %d, %d", b, x, y, z)
			}
		}
	}
}

// TestIsTree looks at all lists of branches of small boards that have the right weights, or ones next to them.
func TestIsTree(t *testing.T) {
	r := rand.New(rand.NewSource(23))
	trees, others := 0, 0
	for range 60 {
		b := board(random(r, 2+r.Intn(3), r.Intn(8)))
		n := both(b)
		var all func(l []flow.Branch)
		all = func(l []flow.Branch) {
			if is := isTree(b, l); flow.IsTree(b, l) != is {
				t.Fatalf("IsTree(%v, %v): %v", b, l, !is)
			} else if is {
				trees++
			} else {
				others++
			}
			if len(l) >= b.Places {
				return
			}
			for x := range b.Places {
				for y := range b.Places {
					if x == y {
						continue
					}
					w, _, _ := leastCut(n, x, y)
					if r.Intn(10) == 0 {
						w += int64(r.Intn(3) - 1)
					}
					all(append(slices.Clone(l), flow.Branch{A: x, B: y, Weight: w}))
				}
			}
		}
		all(nil)
	}
	if trees < 100 || others < 1000 {
		t.Errorf("%d trees, %d others", trees, others)
	}
}

// onWay is the definition of Between: the least weight on the way from a to b in a tree.
func onWay(l []flow.Branch, a, b, from int, least int64) (int64, bool) {
	if a == b {
		return least, true
	}
	for _, x := range l {
		for range 2 {
			x.A, x.B = x.B, x.A
			if x.A != a || x.B == from {
				continue
			}
			if v, ok := onWay(l, x.B, b, a, min(least, x.Weight)); ok {
				return v, true
			}
		}
	}
	return 0, false
}

func TestBetween(t *testing.T) {
	line := func(number int) []flow.Branch {
		var l []flow.Branch
		for i := range number {
			l = append(l, flow.Branch{A: i, B: i + 1, Weight: int64(number - i)})
		}
		return l
	}
	changed := func(l []flow.Branch, i, a, b int) []flow.Branch {
		l[i].A, l[i].B = a, b
		return l
	}
	for _, c := range []struct {
		l     []flow.Branch
		a, b  int
		least int64
		e     api.Errno
	}{
		{nil, 0, 0, 0, api.ErrNet},
		{nil, 0, 1, 0, api.ErrNet},
		{line(1), 0, 1, 1, api.OK},
		{line(1), 1, 0, 1, api.OK},
		{line(23), 0, 23, 1, api.OK},
		{line(23), 22, 3, 2, api.OK},
		{line(24), 0, 1, 0, api.ErrNet},
		{line(24), 0, 0, 0, api.ErrNet},
		{line(3), 0, 0, 0, api.ErrArg},
		{line(3), 0, 4, 0, api.ErrArg},
		{line(3), 4, 0, 0, api.ErrArg},
		{line(3), -1, 0, 0, api.ErrArg},
		{line(3), 0, math.MinInt, 0, api.ErrArg},
		{line(3), math.MaxInt, 0, 0, api.ErrArg},
		{changed(line(3), 2, 1, 0), 0, 1, 0, api.ErrNet},
		{changed(line(3), 2, 2, 0), 0, 9, 0, api.ErrNet},
		{changed(line(3), 0, 1, 1), 0, 1, 0, api.ErrNet},
		{changed(line(3), 2, 2, 4), 0, 1, 0, api.ErrNet},
		{changed(line(3), 2, -1, 2), 0, 1, 0, api.ErrNet},
		{changed(line(3), 2, 2, math.MaxInt), 0, 1, 0, api.ErrNet},
		{changed(line(3), 2, math.MinInt, 3), 0, 1, 0, api.ErrNet},
		{[]flow.Branch{{A: 2, B: 0, Weight: -7}, {A: 1, B: 2, Weight: math.MaxInt64}}, 1, 2, math.MaxInt64, api.OK},
		{[]flow.Branch{{A: 2, B: 0, Weight: -7}, {A: 1, B: 2, Weight: math.MaxInt64}}, 0, 1, -7, api.OK},
		{[]flow.Branch{{A: 0, B: 1, Weight: math.MinInt64}}, 0, 1, math.MinInt64, api.OK},
	} {
		if v, e := flow.Between(c.l, c.a, c.b); v != c.least || e != c.e {
			t.Errorf("Between(%v, %d, %d): %d, %d", c.l, c.a, c.b, v, e)
		}
	}
	r := rand.New(rand.NewSource(24))
	for range 300 {
		places := 2 + r.Intn(23)
		name := r.Perm(places)
		var l []flow.Branch
		for i := 1; i < places; i++ {
			l = append(l, flow.Branch{A: name[i], B: name[r.Intn(i)], Weight: int64(r.Intn(20) - 5)})
		}
		r.Shuffle(len(l), func(i, k int) { l[i], l[k] = l[k], l[i] })
		for x := range places {
			for y := range places {
				least, _ := onWay(l, x, y, -1, math.MaxInt64)
				if v, e := flow.Between(l, x, y); x != y && (v != least || e != api.OK) {
					t.Fatalf("Between(%v, %d, %d): %d, %d, not %d", l, x, y, v, e, least)
				}
			}
		}
	}
}

// TestWeakest compares Weakest with all sets that have 0 and not all places.
func TestWeakest(t *testing.T) {
	r := rand.New(rand.NewSource(25))
	ties := 0
	for range 3000 {
		b := board(random(r, 2+r.Intn(6), r.Intn(14)))
		n := both(b)
		least, first, number := int64(math.MaxInt64), []int(nil), 0
		for side := 1; side < 1<<b.Places-1; side += 2 {
			c := capacity(n, side)
			if c < least {
				least, first, number = c, places(side), 0
			}
			if c == least {
				number++
				if slices.Compare(places(side), first) < 0 {
					first = places(side)
				}
			}
		}
		if v, set, e := flow.Weakest(b); v != least || !slices.Equal(set, first) || e != api.OK {
			t.Fatalf("Weakest(%v): %d, %v, %d; not %d, %v", b, v, set, e, least, first)
		}
		if number > 1 {
			ties++
		}
	}
	if ties < 100 {
		t.Errorf("only %d ties", ties)
	}
}

// TestWeakestCases has boards whose weakest sets are known.
func TestWeakestCases(t *testing.T) {
	var ring, line []flow.Link
	for i := range 24 {
		ring = append(ring, flow.Link{A: i, B: (i + 1) % 24, Cap: most})
	}
	line = append(line, ring[:23]...)
	line[22].Cap = 3
	far := append(append([]flow.Link(nil), ring...), flow.Link{A: 0, B: 12, Cap: 1}, flow.Link{A: 1, B: 23, Cap: 1})
	var upTo22 []int
	for i := range 23 {
		upTo22 = append(upTo22, i)
	}
	for _, c := range []struct {
		b     flow.Board
		least int64
		set   []int
	}{
		{flow.Board{Places: 2}, 0, []int{0}},
		{flow.Board{Places: 24}, 0, []int{0}},
		{flow.Board{Places: 2, Links: slices.Repeat([]flow.Link{{A: 1, B: 0, Cap: most}}, 200)}, 200 * most, []int{0}},
		{flow.Board{Places: 24, Links: ring}, 2 * most, []int{0}},
		{flow.Board{Places: 24, Links: line}, 3, upTo22},
		{flow.Board{Places: 24, Links: far}, 2 * most, []int{0, 1, 2, 3, 4, 5, 6, 7, 8, 9, 10, 11, 12, 13, 14, 15, 16, 17, 18, 19, 20, 21, 23}},
		{flow.Board{Places: 4, Links: []flow.Link{{A: 0, B: 2, Cap: 1}}}, 0, []int{0, 1, 2}},
		{flow.Board{Places: 4, Links: []flow.Link{{A: 0, B: 3, Cap: 1}}}, 0, []int{0, 1, 3}},
		{flow.Board{Places: 3, Links: []flow.Link{{A: 0, B: 1, Cap: 0}, {A: 1, B: 2, Cap: 9}, {A: 2, B: 1, Cap: 0}}}, 0, []int{0}},
	} {
		if v, set, e := flow.Weakest(c.b); v != c.least || !slices.Equal(set, c.set) || e != api.OK {
			t.Errorf("Weakest(%v): %d, %v, %d; not %d, %v", c.b, v, set, e, c.least, c.set)
		}
	}
}
