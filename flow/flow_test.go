package flow_test

import (
	"math"
	"math/rand"
	"reflect"
	"slices"
	"testing"

	"minikin/api"
	"minikin/flow"
)

const most = 1_000_000_000

// example is the network of the chapter.
func example() flow.Net {
	return flow.Net{Places: 4, Arcs: []flow.Arc{{From: 0, To: 1, Cap: 3}, {From: 0, To: 2, Cap: 2}, {From: 1, To: 2, Cap: 1}, {From: 1, To: 3, Cap: 2}, {From: 2, To: 3, Cap: 3}}}
}

// copied returns a network equal to n whose slice ends in the middle of an array.
func copied(n flow.Net) flow.Net {
	arcs := append(slices.Clone(n.Arcs), flow.Arc{From: -1, To: -1, Cap: -1})
	return flow.Net{Places: n.Places, Arcs: arcs[:len(n.Arcs)]}
}

// random returns a network with several arcs between the same places and places that nothing joins.
func random(r *rand.Rand, places, arcs int) flow.Net {
	n := flow.Net{Places: places}
	caps := [][]int64{{0, 1}, {1, 2, 3}, {0, 1, 5, most - 1, most}}[r.Intn(3)]
	for range arcs {
		a, b := r.Intn(places), r.Intn(places)
		if a != b {
			n.Arcs = append(n.Arcs, flow.Arc{From: a, To: b, Cap: caps[r.Intn(len(caps))]})
		}
	}
	return n
}

func two(r *rand.Rand, places int) (int, int) {
	s := r.Intn(places)
	return s, (s + 1 + r.Intn(places-1)) % places
}

// capacity is the sum of the capacities from the places whose bits are in side to others.
func capacity(n flow.Net, side int) int64 {
	sum := int64(0)
	for _, a := range n.Arcs {
		if side>>a.From&1 == 1 && side>>a.To&1 == 0 {
			sum += a.Cap
		}
	}
	return sum
}

func places(side int) []int {
	var out []int
	for p := range 24 {
		if side>>p&1 == 1 {
			out = append(out, p)
		}
	}
	return out
}

func bitsOf(list []int) int {
	side := 0
	for _, p := range list {
		side |= 1 << p
	}
	return side
}

// leastCut looks at all cuts: it returns the least capacity, how many cuts have it, and what they have in common.
func leastCut(n flow.Net, s, t int) (least int64, number, common int) {
	least = math.MaxInt64
	for side := range 1 << n.Places {
		if side>>s&1 == 0 || side>>t&1 == 1 {
			continue
		}
		switch c := capacity(n, side); {
		case c < least:
			least, number, common = c, 1, side
		case c == least:
			number++
			common &= side
		}
	}
	return least, number, common
}

// valueOf is the definition of a flow and its value.
func valueOf(n flow.Net, s, t int, l []int64) (int64, bool) {
	if len(l) != len(n.Arcs) {
		return 0, false
	}
	value := int64(0)
	for p := range n.Places {
		out := int64(0)
		for i, a := range n.Arcs {
			if l[i] < 0 || l[i] > a.Cap {
				return 0, false
			}
			if a.From == p {
				out += l[i]
			}
			if a.To == p {
				out -= l[i]
			}
		}
		switch {
		case p == s:
			value = out
		case p != t && out != 0:
			return 0, false
		}
	}
	return value, true
}

func TestCheck(t *testing.T) {
	arcs := func(number int, last flow.Arc) []flow.Arc {
		l := slices.Repeat([]flow.Arc{{From: 0, To: 1, Cap: 1}}, number)
		l[number-1] = last
		return l
	}
	good := flow.Arc{From: 1, To: 0, Cap: 1}
	for _, c := range []struct {
		n flow.Net
		e api.Errno
	}{
		{flow.Net{}, api.ErrNet},
		{flow.Net{Places: 1}, api.ErrNet},
		{flow.Net{Places: -2}, api.ErrNet},
		{flow.Net{Places: math.MinInt}, api.ErrNet},
		{flow.Net{Places: math.MaxInt}, api.ErrNet},
		{flow.Net{Places: 25}, api.ErrNet},
		{flow.Net{Places: 25, Arcs: arcs(1, good)}, api.ErrNet},
		{flow.Net{Places: 2}, api.OK},
		{flow.Net{Places: 24}, api.OK},
		{flow.Net{Places: 24, Arcs: arcs(1, flow.Arc{From: 23, To: 22, Cap: 7})}, api.OK},
		{flow.Net{Places: 2, Arcs: arcs(200, good)}, api.OK},
		{flow.Net{Places: 2, Arcs: arcs(201, good)}, api.ErrNet},
		{flow.Net{Places: 2, Arcs: arcs(1, flow.Arc{From: 0, To: 1, Cap: 0})}, api.OK},
		{flow.Net{Places: 2, Arcs: arcs(1, flow.Arc{From: 0, To: 1, Cap: most})}, api.OK},
		{flow.Net{Places: 2, Arcs: arcs(200, flow.Arc{From: 0, To: 1, Cap: most + 1})}, api.ErrNet},
		{flow.Net{Places: 2, Arcs: arcs(1, flow.Arc{From: 0, To: 1, Cap: math.MaxInt64})}, api.ErrNet},
		{flow.Net{Places: 2, Arcs: arcs(2, flow.Arc{From: 0, To: 1, Cap: -1})}, api.ErrNet},
		{flow.Net{Places: 2, Arcs: arcs(2, flow.Arc{From: 1, To: 1, Cap: 1})}, api.ErrNet},
		{flow.Net{Places: 3, Arcs: arcs(2, flow.Arc{From: 0, To: 3, Cap: 1})}, api.ErrNet},
		{flow.Net{Places: 3, Arcs: arcs(2, flow.Arc{From: 3, To: 0, Cap: 1})}, api.ErrNet},
		{flow.Net{Places: 3, Arcs: arcs(2, flow.Arc{From: -1, To: 0, Cap: 1})}, api.ErrNet},
		{flow.Net{Places: 3, Arcs: arcs(2, flow.Arc{From: 0, To: math.MinInt, Cap: 1})}, api.ErrNet},
	} {
		if e := flow.Check(c.n); e != c.e {
			t.Errorf("Check(%v): %d, not %d", c.n, e, c.e)
		}
		b := flow.Board{Places: c.n.Places}
		for _, a := range c.n.Arcs {
			b.Links = append(b.Links, flow.Link{A: a.From, B: a.To, Cap: a.Cap})
		}
		if e := flow.CheckBoard(b); e != c.e {
			t.Errorf("CheckBoard(%v): %d, not %d", b, e, c.e)
		}
		if c.e == api.OK {
			refusedEnds(t, c.n, b)
		} else {
			refused(t, c.n, b)
		}
	}
}

// refused calls all functions with no network and no board, and arguments that are wrong otherwise too.
func refused(t *testing.T, n flow.Net, b flow.Board) {
	for _, s := range []int{0, 1, -1} {
		if v, l, e := flow.Most(n, s, 0); v != 0 || len(l) != 0 || e != api.ErrNet {
			t.Errorf("Most(%v): %d, %v, %d", n, v, l, e)
		}
		if v, ok := flow.IsFlow(n, s, 0, make([]int64, len(n.Arcs))); v != 0 || ok {
			t.Errorf("IsFlow(%v): %d", n, v)
		}
		if l, c, e := flow.Cut(n, s, 0); len(l) != 0 || c != 0 || e != api.ErrNet {
			t.Errorf("Cut(%v): %v, %d, %d", n, l, c, e)
		}
		if c, e := flow.Capacity(n, []int{0, s}); c != 0 || e != api.ErrNet {
			t.Errorf("Capacity(%v): %d, %d", n, c, e)
		}
		if w, l, e := flow.Apart(n, s, 0); len(w) != 0 || len(l) != 0 || e != api.ErrNet {
			t.Errorf("Apart(%v): %v, %v, %d", n, w, l, e)
		}
		if flow.AreApart(n, s, 0, nil) || flow.AreApart(n, 0, 1, [][]int{{0}}) {
			t.Errorf("AreApart(%v)", n)
		}
		if v, e := flow.Least(b, s, 0); v != 0 || e != api.ErrNet {
			t.Errorf("Least(%v): %d, %d", b, v, e)
		}
	}
	if l, e := flow.Tree(b); len(l) != 0 || e != api.ErrNet {
		t.Errorf("Tree(%v): %v, %d", b, l, e)
	}
	if flow.IsTree(b, []flow.Branch{{A: 0, B: 1, Weight: 1}}) || flow.IsTree(b, nil) {
		t.Errorf("IsTree(%v)", b)
	}
	if v, l, e := flow.Weakest(b); v != 0 || len(l) != 0 || e != api.ErrNet {
		t.Errorf("Weakest(%v): %d, %v, %d", b, v, l, e)
	}
}

// refusedEnds calls the functions with s and t with numbers that are no places, or the same.
func refusedEnds(t *testing.T, n flow.Net, b flow.Board) {
	for _, c := range [][2]int{{0, 0}, {1, 1}, {-1, 0}, {0, -1}, {n.Places, 0}, {0, n.Places}, {64, 1}, {math.MinInt, 1}, {1, math.MaxInt}} {
		if v, l, e := flow.Most(n, c[0], c[1]); v != 0 || len(l) != 0 || e != api.ErrArg {
			t.Errorf("Most(%v): %d, %v, %d", c, v, l, e)
		}
		if v, ok := flow.IsFlow(n, c[0], c[1], make([]int64, len(n.Arcs))); v != 0 || ok {
			t.Errorf("IsFlow(%v): %d", c, v)
		}
		if l, v, e := flow.Cut(n, c[0], c[1]); len(l) != 0 || v != 0 || e != api.ErrArg {
			t.Errorf("Cut(%v): %v, %d, %d", c, l, v, e)
		}
		if w, l, e := flow.Apart(n, c[0], c[1]); len(w) != 0 || len(l) != 0 || e != api.ErrArg {
			t.Errorf("Apart(%v): %v, %v, %d", c, w, l, e)
		}
		if flow.AreApart(n, c[0], c[1], nil) {
			t.Errorf("AreApart(%v)", c)
		}
		if v, e := flow.Least(b, c[0], c[1]); v != 0 || e != api.ErrArg {
			t.Errorf("Least(%v): %d, %d", c, v, e)
		}
	}
}

func TestExample(t *testing.T) {
	n := example()
	value, l, e := flow.Most(n, 0, 3)
	if w, ok := valueOf(n, 0, 3, l); value != 5 || w != 5 || !ok || e != api.OK {
		t.Errorf("Most: %d, %v, %d", value, l, e)
	}
	if side, c, e := flow.Cut(n, 0, 3); !slices.Equal(side, []int{0}) || c != 5 || e != api.OK {
		t.Errorf("Cut: %v, %d, %d", side, c, e)
	}
	// From 3 nothing leads to 0.
	if value, l, e := flow.Most(n, 3, 0); value != 0 || !slices.Equal(l, make([]int64, 5)) || e != api.OK {
		t.Errorf("Most: %d, %v, %d", value, l, e)
	}
	if side, c, e := flow.Cut(n, 3, 0); !slices.Equal(side, []int{3}) || c != 0 || e != api.OK {
		t.Errorf("Cut: %v, %d, %d", side, c, e)
	}
}

// TestFlows compares Most and Cut with all cuts.
func TestFlows(t *testing.T) {
	r := rand.New(rand.NewSource(1))
	ties := 0
	for range 3000 {
		n := random(r, 2+r.Intn(6), r.Intn(16))
		s, to := two(r, n.Places)
		kept := copied(n)
		least, number, first := leastCut(n, s, to)
		value, l, e := flow.Most(n, s, to)
		if w, ok := valueOf(n, s, to, l); value != least || w != value || !ok || e != api.OK {
			t.Fatalf("Most(%v, %d, %d): %d, %v, %d; least cut %d", n, s, to, value, l, e, least)
		}
		side, c, e := flow.Cut(n, s, to)
		if !slices.Equal(side, places(first)) || c != least || e != api.OK {
			t.Fatalf("Cut(%v, %d, %d): %v, %d, %d; not %v, %d", n, s, to, side, c, e, places(first), least)
		}
		again, m, _ := flow.Most(kept, s, to)
		if again != value || !slices.Equal(l, m) || !reflect.DeepEqual(n, flow.Net{Places: kept.Places, Arcs: append([]flow.Arc(nil), kept.Arcs...)}) {
			t.Fatalf("Most(%v, %d, %d) changed", n, s, to)
		}
		if number > 1 {
			ties++
		}
	}
	if ties < 100 {
		t.Errorf("only %d ties", ties)
	}
}

// TestLargeFlows has a cut of the same capacity as a proof for each flow, and a greater flow for each smaller cut.
func TestLargeFlows(t *testing.T) {
	r := rand.New(rand.NewSource(2))
	for range 300 {
		n := random(r, 24, 199)
		s, to := two(r, 24)
		value, l, e := flow.Most(n, s, to)
		w, ok := valueOf(n, s, to, l)
		side, c, f := flow.Cut(n, s, to)
		if value != w || !ok || e != api.OK || value != c || f != api.OK {
			t.Fatalf("Most(%v, %d, %d): %d, %d, %d, %d", n, s, to, value, c, e, f)
		}
		if !slices.Contains(side, s) || slices.Contains(side, to) || !slices.IsSorted(side) || capacity(n, bitsOf(side)) != c {
			t.Fatalf("Cut(%v, %d, %d): %v, %d", n, s, to, side, c)
		}
		for _, p := range side {
			wider := copied(n)
			wider.Arcs = append(wider.Arcs, flow.Arc{From: p, To: to, Cap: most})
			if v, _, _ := flow.Most(wider, s, to); p != s && v == value {
				t.Fatalf("Cut(%v, %d, %d): %v, but one is without %d", n, s, to, side, p)
			}
		}
	}
}

// TestFullNet has as much as the limits allow.
func TestFullNet(t *testing.T) {
	n := flow.Net{Places: 24, Arcs: slices.Repeat([]flow.Arc{{From: 23, To: 0, Cap: most}}, 200)}
	if v, l, e := flow.Most(n, 23, 0); v != 200*most || len(l) != 200 || e != api.OK {
		t.Errorf("Most: %d, %v, %d", v, l, e)
	}
	if v, ok := flow.IsFlow(n, 23, 0, slices.Repeat([]int64{most}, 200)); v != 200*most || !ok {
		t.Errorf("IsFlow: %d", v)
	}
	if v, ok := flow.IsFlow(n, 23, 0, slices.Repeat([]int64{math.MaxInt64}, 200)); v != 0 || ok {
		t.Errorf("IsFlow: %d", v)
	}
	if c, e := flow.Capacity(n, []int{1, 23}); c != 200*most || e != api.OK {
		t.Errorf("Capacity: %d, %d", c, e)
	}
}

func TestIsFlow(t *testing.T) {
	n := example()
	for _, c := range []struct {
		s, t  int
		l     []int64
		value int64
		ok    bool
	}{
		{0, 3, []int64{3, 2, 1, 2, 3}, 5, true},
		{0, 3, []int64{0, 0, 0, 0, 0}, 0, true},
		{0, 3, []int64{2, 0, 0, 2, 0}, 2, true},
		{3, 0, []int64{2, 0, 0, 2, 0}, -2, true},
		{0, 3, []int64{2, 0, 0, 2}, 0, false},
		{0, 3, []int64{2, 0, 0, 2, 0, 0}, 0, false},
		{0, 3, nil, 0, false},
		{0, 3, []int64{2, 0, 1, 2, 0}, 0, false},
		{0, 3, []int64{3, 0, 0, 3, 0}, 0, false},
		{0, 3, []int64{-1, 0, 0, -1, 0}, 0, false},
		{0, 3, []int64{math.MinInt64, 0, 0, math.MinInt64, 0}, 0, false},
		{0, 1, []int64{2, 0, 0, 0, 0}, 2, true},
		{0, 1, []int64{2, 1, 0, 0, 0}, 0, false},
	} {
		if v, ok := flow.IsFlow(n, c.s, c.t, c.l); v != c.value || ok != c.ok {
			t.Errorf("IsFlow(%d, %d, %v): %d, %v", c.s, c.t, c.l, v, ok)
		}
	}
	if v, ok := flow.IsFlow(flow.Net{Places: 2}, 0, 1, nil); v != 0 || !ok {
		t.Errorf("IsFlow without arcs: %d, %v", v, ok)
	}
	r := rand.New(rand.NewSource(3))
	flows := 0
	for range 20000 {
		n := random(r, 2+r.Intn(3), r.Intn(5))
		s, to := two(r, n.Places)
		l := make([]int64, len(n.Arcs))
		for i := range l {
			l[i] = int64(r.Intn(5) - 1)
		}
		value, is := valueOf(n, s, to, l)
		if v, ok := flow.IsFlow(n, s, to, l); v != value || ok != is {
			t.Fatalf("IsFlow(%v, %d, %d, %v): %d, %v", n, s, to, l, v, ok)
		}
		if is && value != 0 {
			flows++
		}
	}
	if flows < 100 {
		t.Errorf("only %d flows", flows)
	}
}

func TestCapacity(t *testing.T) {
	n := example()
	for _, c := range []struct {
		set []int
		sum int64
		e   api.Errno
	}{
		{nil, 0, api.OK},
		{[]int{0}, 5, api.OK},
		{[]int{1}, 3, api.OK},
		{[]int{3}, 0, api.OK},
		{[]int{0, 2}, 6, api.OK},
		{[]int{0, 1, 2, 3}, 0, api.OK},
		{[]int{0, 0}, 0, api.ErrArg},
		{[]int{2, 1}, 0, api.ErrArg},
		{[]int{-1, 0}, 0, api.ErrArg},
		{[]int{0, 4}, 0, api.ErrArg},
		{[]int{math.MinInt}, 0, api.ErrArg},
		{[]int{math.MaxInt}, 0, api.ErrArg},
	} {
		if sum, e := flow.Capacity(n, c.set); sum != c.sum || e != c.e {
			t.Errorf("Capacity(%v): %d, %d", c.set, sum, e)
		}
	}
	r := rand.New(rand.NewSource(4))
	for range 200 {
		n := random(r, 2+r.Intn(5), r.Intn(20))
		for side := range 1 << n.Places {
			if sum, e := flow.Capacity(n, places(side)); sum != capacity(n, side) || e != api.OK {
				t.Fatalf("Capacity(%v, %v): %d, %d", n, places(side), sum, e)
			}
		}
	}
}

// TestEitherOr: P3.5.
func TestEitherOr(t *testing.T) {
	r := rand.New(rand.NewSource(5))
	for range 300 {
		n := random(r, 2+r.Intn(4), r.Intn(10))
		s, to := two(r, n.Places)
		value, l, _ := flow.Most(n, s, to)
		_, is := flow.IsFlow(n, s, to, l)
		_, c, _ := flow.Cut(n, s, to)
		least, _, _ := leastCut(n, s, to)
		for v := value - 2; v <= value+2; v++ {
			if hasFlow, hasCut := is && value >= v, c < v; hasFlow == hasCut || hasCut != (least < v) {
				t.Fatalf("%v, %d, %d: at %d, flow %v, cut %v", n, s, to, v, hasFlow, hasCut)
			}
		}
	}
}

// TestSumsOfSets: P3.8, the second part.
func TestSumsOfSets(t *testing.T) {
	r := rand.New(rand.NewSource(6))
	of := func(n flow.Net, side int) int64 {
		c, e := flow.Capacity(n, places(side))
		if e != api.OK {
			t.Fatalf("Capacity(%v, %v): %d", n, places(side), e)
		}
		return c
	}
	for range 2000 {
		n := random(r, 2+r.Intn(23), r.Intn(200))
		a, b := r.Intn(1<<n.Places), r.Intn(1<<n.Places)
		if of(n, a|b)+of(n, a&b) > of(n, a)+of(n, b) {
			t.Fatalf("%v: %v, %v", n, places(a), places(b))
		}
	}
}

// TestAnyArguments: no call panics (P1), and each result next to an error is zero.
func TestAnyArguments(t *testing.T) {
	r := rand.New(rand.NewSource(7))
	odd := []int{math.MinInt, -1, 0, 1, 2, 3, 23, 24, 25, 31, 32, 63, 64, 200, math.MaxInt}
	any := func() int { return odd[r.Intn(len(odd))] }
	few := func() int { return 2 + r.Intn(3) - r.Intn(3) }
	for range 30000 {
		pick := few
		if r.Intn(3) == 0 {
			pick = any
		}
		n, b, l, list := flow.Net{Places: pick()}, flow.Board{Places: pick()}, []int64{}, []int{}
		branches := []flow.Branch{}
		for range r.Intn(5) {
			n.Arcs = append(n.Arcs, flow.Arc{From: pick(), To: pick(), Cap: int64(pick())})
			b.Links = append(b.Links, flow.Link{A: pick(), B: pick(), Cap: int64(pick())})
			l, list = append(l, int64(pick())), append(list, pick())
			branches = append(branches, flow.Branch{A: pick(), B: pick(), Weight: int64(pick())})
		}
		s, to := pick(), pick()
		if v, l, e := flow.Most(n, s, to); e != api.OK && (v != 0 || len(l) > 0) {
			t.Fatalf("Most(%v, %d, %d): %d, %v, %d", n, s, to, v, l, e)
		}
		if v, ok := flow.IsFlow(n, s, to, l); !ok && v != 0 {
			t.Fatalf("IsFlow(%v, %d, %d, %v): %d", n, s, to, l, v)
		}
		if side, v, e := flow.Cut(n, s, to); e != api.OK && (v != 0 || len(side) > 0) {
			t.Fatalf("Cut(%v, %d, %d): %v, %d, %d", n, s, to, side, v, e)
		}
		if v, e := flow.Capacity(n, list); e != api.OK && v != 0 {
			t.Fatalf("Capacity(%v, %v): %d, %d", n, list, v, e)
		}
		if w, l, e := flow.Apart(n, s, to); e != api.OK && len(w)+len(l) > 0 {
			t.Fatalf("Apart(%v, %d, %d): %v, %v, %d", n, s, to, w, l, e)
		}
		flow.AreApart(n, s, to, [][]int{list, {pick()}, nil})
		if v, e := flow.Least(b, s, to); e != api.OK && v != 0 {
			t.Fatalf("Least(%v, %d, %d): %d, %d", b, s, to, v, e)
		}
		if l, e := flow.Tree(b); e != api.OK && len(l) > 0 {
			t.Fatalf("Tree(%v): %v, %d", b, l, e)
		}
		flow.IsTree(b, branches)
		if v, e := flow.Between(branches, s, to); e != api.OK && v != 0 {
			t.Fatalf("Between(%v, %d, %d): %d, %d", branches, s, to, v, e)
		}
		if v, l, e := flow.Weakest(b); e != api.OK && (v != 0 || len(l) > 0) {
			t.Fatalf("Weakest(%v): %d, %v, %d", b, v, l, e)
		}
	}
}
