package pair_test

import (
	"math"
	"math/rand"
	"slices"
	"testing"

	"minikin/api"
	"minikin/pair"
)

// comesBefore is the definition of an order: which thing comes before which by one pair or several.
func comesBefore(n int, before [][2]int) func(a, b int) bool {
	reached := make([]map[int]bool, n)
	var walk func(from, at int)
	walk = func(from, at int) {
		for _, x := range before {
			if x[0] == at && !reached[from][x[1]] {
				reached[from][x[1]] = true
				walk(from, x[1])
			}
		}
	}
	for a := range n {
		reached[a] = map[int]bool{}
		walk(a, a)
	}
	return func(a, b int) bool { return reached[a][b] }
}

// line returns the pairs that put n things in one line.
func line(n int) [][2]int {
	var out [][2]int
	for i := 1; i < n; i++ {
		out = append(out, [2]int{i - 1, i})
	}
	return out
}

// ordered returns a random order: pairs in the direction of a random line, some of them twice.
func ordered(r *rand.Rand, n, pairs int) [][2]int {
	rank := r.Perm(n)
	var out [][2]int
	for len(out) < pairs && n > 1 {
		a, b := r.Intn(n), r.Intn(n)
		if rank[a] < rank[b] {
			out = append(out, [2]int{a, b})
		}
	}
	return out
}

// chained checks Chains and Antichain against each other (P4.9) and returns their number.
func chained(t *testing.T, n int, before [][2]int) int {
	t.Helper()
	kept := append(slices.Clone(before), [2]int{-1, -1})[:len(before)]
	chains, e := pair.Chains(n, before)
	anti, f := pair.Antichain(n, before)
	if e != api.OK || f != api.OK || len(chains) != len(anti) || !rises(anti, n) || !slices.Equal(before, kept) {
		t.Fatalf("%d, %v: %v, %v, %d, %d", n, before, chains, anti, e, f)
	}
	less := comesBefore(n, before)
	for _, a := range anti {
		for _, b := range anti {
			if less(a, b) {
				t.Fatalf("Antichain(%d, %v): %v", n, before, anti)
			}
		}
	}
	met := map[int]bool{}
	for _, chain := range chains {
		if len(chain) == 0 {
			t.Fatalf("Chains(%d, %v): %v", n, before, chains)
		}
		for i, a := range chain {
			if a < 0 || a >= n || met[a] || i > 0 && !less(chain[i-1], a) {
				t.Fatalf("Chains(%d, %v): %v", n, before, chains)
			}
			met[a] = true
		}
	}
	if len(met) != n {
		t.Fatalf("Chains(%d, %v): %v", n, before, chains)
	}
	again, _ := pair.Chains(n, kept)
	more, _ := pair.Antichain(n, kept)
	if !slices.EqualFunc(chains, again, slices.Equal[[]int]) || !slices.Equal(anti, more) {
		t.Fatalf("Chains(%d, %v): %v, then %v", n, before, chains, again)
	}
	return len(anti)
}

// levelled checks Levels and Longest against the definition, and returns the longest chain.
func levelled(t *testing.T, n int, before [][2]int) []int {
	t.Helper()
	less := comesBefore(n, before)
	ending, beginning := map[int]int{}, map[int]int{}
	var count func(a int, next func(a, b int) bool, known map[int]int) int
	count = func(a int, next func(a, b int) bool, known map[int]int) int {
		if known[a] == 0 {
			known[a] = 1
			for b := range n {
				if next(a, b) {
					known[a] = max(known[a], 1+count(b, next, known))
				}
			}
		}
		return known[a]
	}
	kept := slices.Clone(before)
	levels, e := pair.Levels(n, before)
	long, f := pair.Longest(n, before)
	if e != api.OK || f != api.OK || len(levels) != n || !slices.Equal(before, kept) {
		t.Fatalf("%d, %v: %v, %v, %d, %d", n, before, levels, long, e, f)
	}
	most := 0
	for a := range n {
		if levels[a] != count(a, func(a, b int) bool { return less(b, a) }, ending)-1 {
			t.Fatalf("Levels(%d, %v): %v", n, before, levels)
		}
		most = max(most, count(a, less, beginning))
	}
	if len(long) != most || slices.Max(levels)+1 != most {
		t.Fatalf("%d, %v: %v, %v", n, before, levels, long)
	}
	for i, a := range long { // no lesser thing could be here
		for b := range n {
			if (i == 0 || less(long[i-1], b)) && beginning[b] == most-i && b < a {
				t.Fatalf("Longest(%d, %v): %v, not %d", n, before, long, b)
			}
		}
		if i > 0 && !less(long[i-1], a) {
			t.Fatalf("Longest(%d, %v): %v", n, before, long)
		}
	}
	for a := range n {
		for b := range n {
			if less(a, b) && levels[a] == levels[b] {
				t.Fatalf("Levels(%d, %v): %v", n, before, levels)
			}
		}
	}
	return long
}

func TestCheckOrder(t *testing.T) {
	for _, c := range []struct {
		n      int
		before [][2]int
		e      api.Errno
	}{
		{0, nil, api.ErrOrder},
		{-1, nil, api.ErrOrder},
		{math.MinInt, nil, api.ErrOrder},
		{math.MaxInt, nil, api.ErrOrder},
		{41, nil, api.ErrOrder},
		{41, line(41), api.ErrOrder},
		{1, nil, api.OK},
		{40, nil, api.OK},
		{40, line(40), api.OK},
		{2, slices.Repeat(line(2), 400), api.OK},
		{2, slices.Repeat(line(2), 401), api.ErrOrder},
		{40, slices.Repeat(line(40), 10), api.OK},
		{40, slices.Repeat(line(40), 11)[:401], api.ErrOrder},
		{1, [][2]int{{0, 0}}, api.ErrOrder},
		{2, [][2]int{{0, 1}, {1, 1}}, api.ErrOrder},
		{2, [][2]int{{0, 1}, {1, 0}}, api.ErrOrder},
		{3, [][2]int{{0, 1}, {1, 2}, {2, 0}}, api.ErrOrder},
		{3, [][2]int{{0, 1}, {1, 2}, {0, 2}}, api.OK},
		{5, [][2]int{{4, 3}, {3, 1}, {1, 2}, {2, 3}}, api.ErrOrder},
		{40, append(line(40), [2]int{39, 0}), api.ErrOrder},
		{40, append(line(40), [2]int{0, 39}), api.OK},
		{40, append(line(40), [2]int{39, 38}), api.ErrOrder},
		{3, [][2]int{{0, 3}}, api.ErrOrder},
		{3, [][2]int{{3, 0}}, api.ErrOrder},
		{3, [][2]int{{0, 1}, {-1, 1}}, api.ErrOrder},
		{3, [][2]int{{0, 1}, {1, -1}}, api.ErrOrder},
		{3, [][2]int{{math.MaxInt, 1}}, api.ErrOrder},
		{3, [][2]int{{1, math.MinInt}}, api.ErrOrder},
	} {
		if e := pair.CheckOrder(c.n, c.before); e != c.e {
			t.Errorf("CheckOrder(%d, %v): %d, not %d", c.n, c.before, e, c.e)
		}
		if c.e == api.OK {
			chained(t, c.n, c.before)
			levelled(t, c.n, c.before)
		} else {
			disordered(t, c.n, c.before)
		}
	}
}

// disordered calls all functions with no order.
func disordered(t *testing.T, n int, before [][2]int) {
	if l, e := pair.Chains(n, before); len(l) != 0 || e != api.ErrOrder {
		t.Errorf("Chains(%d, %v): %v, %d", n, before, l, e)
	}
	for i, f := range []func(n int, before [][2]int) ([]int, api.Errno){pair.Antichain, pair.Levels, pair.Longest} {
		if l, e := f(n, before); len(l) != 0 || e != api.ErrOrder {
			t.Errorf("function %d of (%d, %v): %v, %d", i, n, before, l, e)
		}
	}
}

func TestOrderExamples(t *testing.T) {
	for _, c := range []struct {
		n      int
		before [][2]int
		wide   int
		levels []int
		long   []int
	}{
		{4, [][2]int{{0, 2}, {0, 3}, {1, 3}}, 2, []int{0, 0, 1, 1}, []int{0, 2}},
		{1, nil, 1, []int{0}, []int{0}},
		{3, nil, 3, []int{0, 0, 0}, []int{0}},
		{3, [][2]int{{2, 1}, {1, 0}}, 1, []int{2, 1, 0}, []int{2, 1, 0}},
		{4, [][2]int{{3, 0}, {3, 2}, {1, 2}}, 2, []int{1, 0, 1, 0}, []int{1, 2}},
		// 0 begins a shorter chain only; of 1, 2, 4 and 1, 3, 4 the first one counts.
		{6, [][2]int{{0, 5}, {1, 3}, {1, 2}, {3, 4}, {2, 4}}, 3, []int{0, 0, 1, 1, 2, 1}, []int{1, 2, 4}},
		// By the given pairs alone there would be three chains: 1 comes before 3 and 4 by two pairs.
		{5, [][2]int{{0, 2}, {1, 2}, {2, 3}, {2, 4}}, 2, []int{0, 0, 1, 2, 2}, []int{0, 2, 3}},
	} {
		wide := chained(t, c.n, c.before)
		levels, _ := pair.Levels(c.n, c.before)
		if long := levelled(t, c.n, c.before); wide != c.wide || !slices.Equal(levels, c.levels) || !slices.Equal(long, c.long) {
			t.Errorf("%d, %v: %d, %v, %v", c.n, c.before, wide, levels, long)
		}
	}
}

// TestSmallOrders compares with all sets of things.
func TestSmallOrders(t *testing.T) {
	r := rand.New(rand.NewSource(31))
	for range 2000 {
		n := 1 + r.Intn(8)
		before := ordered(r, n, r.Intn(2*n))
		less := comesBefore(n, before)
		wide, first := 0, []int(nil)
		for set := range 1 << n {
			var in []int
			for a := range n {
				if set>>a&1 == 1 {
					in = append(in, a)
				}
			}
			anti := true
			for _, a := range in {
				for _, b := range in {
					anti = anti && !less(a, b)
				}
			}
			if anti {
				wide = max(wide, len(in))
			}
			slices.SortFunc(in, func(a, b int) int { return below(n, less, a) - below(n, less, b) })
			chain := len(in) > 0
			for i := range in {
				chain = chain && (i == 0 || less(in[i-1], in[i]))
			}
			if chain && (len(in) > len(first) || len(in) == len(first) && slices.Compare(in, first) < 0) {
				first = in
			}
		}
		if got := chained(t, n, before); got != wide {
			t.Fatalf("%d, %v: %d, not %d", n, before, got, wide)
		}
		if long := levelled(t, n, before); !slices.Equal(long, first) {
			t.Fatalf("Longest(%d, %v): %v, not %v", n, before, long, first)
		}
	}
}

// below returns the number of things that come before a.
func below(n int, less func(a, b int) bool, a int) int {
	number := 0
	for b := range n {
		if less(b, a) {
			number++
		}
	}
	return number
}

// TestLargeOrders compares chains with antichains, and levels with chains.
func TestLargeOrders(t *testing.T) {
	r := rand.New(rand.NewSource(32))
	widths := map[int]bool{}
	for i := range 600 {
		n := 1 + r.Intn(40)
		before := ordered(r, n, r.Intn(10+i%391))
		widths[chained(t, n, before)] = true
		levelled(t, n, before)
	}
	if len(widths) < 20 {
		t.Errorf("only %d widths", len(widths))
	}
}

func TestOrderMemory(t *testing.T) {
	before := [][2]int{{0, 2}, {0, 3}, {1, 3}}
	chains, _ := pair.Chains(4, before)
	for i := range chains {
		_ = append(chains[i], -1)
		chains[i][0] = -1
	}
	if len(chains) != 2 || chains[0][1] < 2 || chains[1][1] < 2 {
		t.Errorf("Chains: %v", chains)
	}
	for _, f := range []func(n int, before [][2]int) ([]int, api.Errno){pair.Antichain, pair.Levels, pair.Longest} {
		l, _ := f(4, before)
		for i := range l {
			l[i] = -1
		}
	}
	chained(t, 4, before)
	levelled(t, 4, before)
}
