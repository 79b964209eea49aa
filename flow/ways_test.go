package flow_test

import (
	"math"
	"math/rand"
	"reflect"
	"slices"
	"testing"

	"minikin/api"
	"minikin/flow"
)

// areWays is the definition of ways that are apart.
func areWays(n flow.Net, s, t int, ways [][]int) bool {
	used := map[int]bool{}
	for _, way := range ways {
		met := map[int]bool{s: true}
		at := s
		for _, i := range way {
			if i < 0 || i >= len(n.Arcs) || used[i] || n.Arcs[i].From != at {
				return false
			}
			used[i] = true
			at = n.Arcs[i].To
			if met[at] {
				return false
			}
			met[at] = true
		}
		if len(way) == 0 || at != t {
			return false
		}
	}
	return true
}

// leads reports whether there is a way from s to t over arcs that are not in without.
func leads(n flow.Net, s, t int, without []int) bool {
	met := map[int]bool{s: true}
	for range n.Places {
		for i, a := range n.Arcs {
			if met[a.From] && !slices.Contains(without, i) {
				met[a.To] = true
			}
		}
	}
	return met[t]
}

// fewest is the least number of arcs of which each way from s to t has one: as many ways are apart.
func fewest(n flow.Net, s, t int) int {
	least := math.MaxInt
	for side := range 1 << n.Places {
		if side>>s&1 == 0 || side>>t&1 == 1 {
			continue
		}
		sum := 0
		for _, a := range n.Arcs {
			if side>>a.From&1 == 1 && side>>a.To&1 == 0 {
				sum++
			}
		}
		least = min(least, sum)
	}
	return least
}

// proved checks what Apart returns: as many ways as arcs, and the arcs leave no way (P3.6).
func proved(t *testing.T, n flow.Net, s, to int) int {
	t.Helper()
	kept := copied(n)
	ways, arcs, e := flow.Apart(n, s, to)
	if e != api.OK || !areWays(n, s, to, ways) || len(arcs) != len(ways) || !flow.AreApart(n, s, to, ways) {
		t.Fatalf("Apart(%v, %d, %d): %v, %v, %d", n, s, to, ways, arcs, e)
	}
	for i, a := range arcs {
		if a < 0 || a >= len(n.Arcs) || i > 0 && a <= arcs[i-1] {
			t.Fatalf("Apart(%v, %d, %d): %v", n, s, to, arcs)
		}
	}
	if leads(n, s, to, arcs) {
		t.Fatalf("Apart(%v, %d, %d): a way without %v", n, s, to, arcs)
	}
	if !slices.Equal(n.Arcs, kept.Arcs) {
		t.Fatal("an argument was changed")
	}
	for i := range ways {
		_ = append(ways[i][:cap(ways[i])], -1)
		for k := range ways[i] {
			ways[i][k] = -1
		}
	}
	if again, _, _ := flow.Apart(n, s, to); !areWays(n, s, to, again) {
		t.Fatalf("Apart(%v, %d, %d): %v", n, s, to, again)
	}
	return len(ways)
}

func TestApart(t *testing.T) {
	r := rand.New(rand.NewSource(11))
	for range 3000 {
		n := random(r, 2+r.Intn(6), r.Intn(20))
		s, to := two(r, n.Places)
		if number := proved(t, n, s, to); number != fewest(n, s, to) {
			t.Fatalf("Apart(%v, %d, %d): %d, not %d", n, s, to, number, fewest(n, s, to))
		}
	}
	for range 300 {
		n := random(r, 24, 200)
		s, to := two(r, 24)
		proved(t, n, s, to)
	}
}

// TestApartWithoutCapacities: capacities play no part.
func TestApartWithoutCapacities(t *testing.T) {
	r := rand.New(rand.NewSource(12))
	for range 300 {
		n := random(r, 2+r.Intn(8), r.Intn(40))
		s, to := two(r, n.Places)
		ways, arcs, _ := flow.Apart(n, s, to)
		for i := range n.Arcs {
			n.Arcs[i].Cap = []int64{0, 1, most}[r.Intn(3)]
		}
		again, others, _ := flow.Apart(n, s, to)
		if !reflect.DeepEqual(ways, again) || !reflect.DeepEqual(arcs, others) || !flow.AreApart(n, s, to, ways) {
			t.Fatalf("Apart(%v, %d, %d): %v, %v", n, s, to, ways, again)
		}
	}
}

func TestApartCases(t *testing.T) {
	for _, c := range []struct {
		places int
		arcs   []flow.Arc
		number int
	}{
		{2, nil, 0},
		{24, nil, 0},
		{2, []flow.Arc{{From: 1, To: 0, Cap: 5}}, 0},
		{2, []flow.Arc{{From: 0, To: 1}}, 1},
		{2, []flow.Arc{{From: 0, To: 1}, {From: 1, To: 0}, {From: 0, To: 1, Cap: 4}}, 2},
		{3, []flow.Arc{{From: 0, To: 2}, {From: 2, To: 0}, {From: 2, To: 0}, {From: 2, To: 1}, {From: 1, To: 2}}, 1},
		{4, []flow.Arc{{From: 0, To: 1}, {From: 1, To: 2}, {From: 2, To: 3}, {From: 3, To: 2}, {From: 2, To: 1}}, 1},
		{2, slices.Repeat([]flow.Arc{{From: 0, To: 1}}, 200), 200},
		// The first way takes 2, 3, the second one 3, 2: they meet in a loop.
		{8, []flow.Arc{{From: 3, To: 2}, {From: 2, To: 3}, {From: 0, To: 2}, {From: 3, To: 1}, {From: 0, To: 4}, {From: 4, To: 5}, {From: 5, To: 3}, {From: 2, To: 6}, {From: 6, To: 7}, {From: 7, To: 1}}, 2},
	} {
		if number := proved(t, flow.Net{Places: c.places, Arcs: c.arcs}, 0, 1); number != c.number {
			t.Errorf("Apart(%v): %d, not %d", c.arcs, number, c.number)
		}
	}
}

func TestAreApart(t *testing.T) {
	n := flow.Net{Places: 4, Arcs: []flow.Arc{{From: 0, To: 1}, {From: 1, To: 2}, {From: 2, To: 3}, {From: 0, To: 3}, {From: 2, To: 0}, {From: 3, To: 1}, {From: 1, To: 3}, {From: 0, To: 3, Cap: 1}}}
	for _, c := range []struct {
		ways [][]int
		ok   bool
	}{
		{nil, true},
		{[][]int{}, true},
		{[][]int{{3}}, true},
		{[][]int{{0, 1, 2}}, true},
		{[][]int{{0, 1, 2}, {7}, {3}}, true},
		{[][]int{{}}, false},
		{[][]int{{3}, nil}, false},
		{[][]int{{3}, {3}}, false},
		{[][]int{{0, 6}, {0, 1, 2}}, false},
		{[][]int{{0, 1, 4, 3}}, false},
		{[][]int{{3, 5, 6}}, false},
		{[][]int{{0, 1}}, false},
		{[][]int{{1, 2}}, false},
		{[][]int{{0, 2}}, false},
		{[][]int{{8}}, false},
		{[][]int{{-1}}, false},
		{[][]int{{math.MaxInt}}, false},
		{[][]int{{3}, {math.MinInt}}, false},
	} {
		if ok := flow.AreApart(n, 0, 3, c.ways); ok != c.ok {
			t.Errorf("AreApart(%v): %v", c.ways, ok)
		}
	}
	r := rand.New(rand.NewSource(13))
	apart := 0
	for range 30000 {
		n := random(r, 2+r.Intn(3), r.Intn(8))
		s, to := two(r, n.Places)
		ways := make([][]int, r.Intn(3))
		for i := range ways {
			for range 1 + r.Intn(3) {
				ways[i] = append(ways[i], r.Intn(len(n.Arcs)+1))
			}
		}
		is := areWays(n, s, to, ways)
		if flow.AreApart(n, s, to, ways) != is {
			t.Fatalf("AreApart(%v, %d, %d, %v): %v", n, s, to, ways, !is)
		}
		if is && len(ways) == 2 {
			apart++
		}
	}
	if apart < 15 {
		t.Errorf("only %d pairs", apart)
	}
}
