package ring_test

import (
	"fmt"
	"math"
	"math/rand"
	"slices"
	"testing"

	"minikin/api"
	"minikin/ring"
)

// TestAllSmallest: P8.3, P8.5 and P8.7 for all protocols of two machines with two colours.
func TestAllSmallest(t *testing.T) {
	applies := map[[3]bool]int{} // how often which codes apply
	for r := range smallest {
		m := modelOf(r)
		got := checkVerdict(t, m)
		_, ends := m.longest(false)
		applies[[3]bool{!m.alwaysReady(), m.left(), !ends}]++
		if got[1] == ring.Steady && got[0] != ring.Steady {
			t.Fatalf("%v: steady in joint steps only", r)
		}
		good, e := ring.Good(r)
		if e != api.OK {
			t.Fatalf("%v: Good: %d", r, e)
		}
		for number := range 4 {
			if slices.Contains(good, number) != m.good(number) {
				t.Fatalf("%v: Good: %v", r, good)
			}
		}
	}
	if len(applies) != 8 {
		t.Errorf("not all codes together: %v", applies)
	}
}

// TestEitherOr: P8.5 for protocols in which some machine is always ready, steady or not: all rankings and all rounds of two machines with two colours.
func TestEitherOr(t *testing.T) {
	rounds := lists(4)
	count := [2]int{}
	for r := range smallest {
		m := modelOf(r)
		if !m.alwaysReady() || hasIdleEntry(r) {
			continue
		}
		ranked := false
		for at := range 4 * 4 * 4 * 4 {
			rank := []int{at / 64, at / 16 % 4, at / 4 % 4, at % 4}
			is := ring.IsRank(r, rank)
			if is != m.isRank(rank) {
				t.Fatalf("%v: %v: %v", r, rank, is)
			}
			ranked = ranked || is
		}
		found := false
		for _, round := range rounds {
			for _, joint := range []bool{false, true} {
				is := ring.IsRound(r, round, joint)
				if is != m.isRound(round, joint) {
					t.Fatalf("%v: %v, %v: %v", r, round, joint, is)
				}
				found = found || is && !joint
			}
		}
		if ranked == found {
			t.Fatalf("%v: ranking %v, round %v", r, ranked, found)
		}
		count[kindOf(found)]++
	}
	if count[0] == 0 || count[1] == 0 {
		t.Error(count)
	}
}

// hasIdleEntry reports whether a protocol of the smallest ones has a move where the machine before and the one after have different colours, which cannot be since they are the same one. Without these moves, each way to behave occurs once.
func hasIdleEntry(r ring.Rules) bool {
	for _, table := range r.Next {
		for _, at := range []int{1, 3, 4, 6} {
			if table[at] != -1 {
				return true
			}
		}
	}
	return false
}

// lists returns all lists of up to n numbers before n, also with numbers that occur twice.
func lists(n int) [][]int {
	all := [][]int{nil}
	for last := all; len(last[0]) < n; {
		var longer [][]int
		for _, l := range last {
			for x := range n {
				longer = append(longer, append(slices.Clone(l), x))
			}
		}
		all, last = append(all, longer...), longer
	}
	return all
}

// TestSamples: P8.3, P8.5 and P8.7 for random protocols and for those that nearly are steady.
func TestSamples(t *testing.T) {
	rnd := rand.New(rand.NewSource(83))
	codes := map[[2]int]int{}
	for _, r := range samples(t) {
		m := modelOf(r)
		got := checkVerdict(t, m)
		codes[got]++
		if got[1] == ring.Steady && got[0] != ring.Steady {
			t.Fatalf("%v: steady in joint steps only", r)
		}
		rank, ok := m.longest(false)
		if ok != ring.IsRank(r, rank) {
			t.Fatalf("%v: IsRank: %v", r, !ok)
		}
		if !ok {
			checkRounds(t, rnd, m)
			continue
		}
		for range 20 {
			other := slices.Clone(rank)
			other[rnd.Intn(len(rank))] += rnd.Intn(5) - 2
			if ring.IsRank(r, other) != m.isRank(other) {
				t.Fatalf("%v: IsRank(%v): %v", r, other, !m.isRank(other))
			}
		}
	}
	for _, due := range [][2]int{{ring.Steady, ring.Steady}, {ring.Steady, ring.Lasso}, {ring.Stuck, ring.Stuck}, {ring.Leaves, ring.Leaves}, {ring.Lasso, ring.Lasso}} {
		if codes[due] < 5 {
			t.Errorf("verdicts %v: %d", due, codes[due])
		}
	}
}

// checkRounds compares IsRound with the definition, for a round and changed ones.
func checkRounds(t *testing.T, rnd *rand.Rand, m *model) {
	t.Helper()
	round := m.someRound(rnd)
	if !ring.IsRound(m.r, round, false) || !ring.IsRound(m.r, round, true) {
		t.Fatalf("%v: no round %v", m.r, round)
	}
	for range 20 {
		other := slices.Clone(round)
		switch at := rnd.Intn(len(round)); rnd.Intn(4) {
		case 0:
			other[at] = rnd.Intn(len(m.configs))
		case 1:
			other = slices.Delete(other, at, at+1)
		case 2:
			other = slices.Insert(other, at, rnd.Intn(len(m.configs)))
		default:
			other = append(other[at:], other[:at]...)
		}
		for _, joint := range []bool{false, true} {
			if ring.IsRound(m.r, other, joint) != m.isRound(other, joint) {
				t.Fatalf("%v: IsRound(%v, %v): %v", m.r, other, joint, !m.isRound(other, joint))
			}
		}
	}
}

// someRound walks at random through configurations from which there need be no end, until it meets its way.
func (m *model) someRound(rnd *rand.Rand) []int {
	left := map[int]bool{}
	for number := range m.configs {
		left[number] = !m.good(number)
	}
	endless := func(number int) []int {
		return slices.DeleteFunc(slices.Clone(m.next[0][number]), func(to int) bool { return !left[to] })
	}
	for shrinks := true; shrinks; {
		shrinks = false
		for number := range m.configs {
			if left[number] && len(endless(number)) == 0 {
				left[number], shrinks = false, true
			}
		}
	}
	var way []int
	at := 0
	for !left[at] {
		at++
	}
	for !slices.Contains(way, at) {
		way = append(way, at)
		next := endless(at)
		at = next[rnd.Intn(len(next))]
	}
	return way[slices.Index(way, at):]
}

// TestCodes: the first verdict that applies, where several do.
func TestCodes(t *testing.T) {
	never := []int{-1, -1, -1, -1, -1, -1, -1, -1}
	always := []int{1, 1, 0, 0, 1, 1, 0, 0}
	like := []int{1, 1, -1, -1, -1, -1, 0, 0} // moves if it has the colour of the one before it
	for _, c := range []struct {
		what  string
		next  [][]int
		joint bool
		due   string
	}{
		{"none is ever ready", [][]int{never, never}, false, "{1 0 0 []}"},
		{"none is ever ready, of three", [][]int{never, never, never}, true, "{1 0 0 []}"},
		{"all are always ready", [][]int{always, always, always}, false, "round"},
		{"all are always ready, in joint steps", [][]int{always, always, always}, true, "round"},
		{"the chapter's second example", [][]int{like, like}, false, "{1 1 0 []}"},
		{"one is always ready, and the other one never", [][]int{always, never}, false, "{0 0 0 []}"},
		{"one is always ready, the other one if both have the same colour", [][]int{always, like}, false, "{2 1 0 []}"},
		{"the same in joint steps", [][]int{always, like}, true, "{2 1 0 []}"},
		{"stuck at 3, a way round between 0 and 1, and 2 is good and left", [][]int{{1, -1, 0, -1, -1, 1, -1, -1}, {1, -1, 0, -1, -1, -1, -1, -1}}, false, "{1 3 0 []}"},
		{"never stuck, a way round between 0 and 1, and 2 is good and left", [][]int{{1, -1, 0, -1, -1, 1, -1, 0}, {1, -1, 0, -1, -1, -1, -1, -1}}, false, "{2 2 0 []}"},
		{"never stuck, a way round between 0 and 2, and no good one is left", [][]int{{1, -1, 0, -1, -1, 1, -1, 0}, {1, -1, -1, -1, -1, 1, -1, -1}}, true, "round"},
	} {
		r := ring.Rules{Machines: len(c.next), Colours: 2, Next: c.next}
		v, e := ring.Judge(r, c.joint)
		got := fmt.Sprint(v)
		if v.Code == ring.Lasso && v.At == 0 && v.Most == 0 && modelOf(r).isRound(v.Round, c.joint) {
			got = "round"
		}
		if got != c.due || e != api.OK {
			t.Errorf("%s: %s, %d, not %s", c.what, got, e, c.due)
		}
		checkVerdict(t, modelOf(r))
	}
	if ring.Steady != 0 || ring.Stuck != 1 || ring.Leaves != 2 || ring.Lasso != 3 {
		t.Error("constants")
	}
}

// TestJointOnly: a way round that only joint steps have; and a good configuration has just one step of either kind, so that none is left by joint steps only.
func TestJointOnly(t *testing.T) {
	r := dijkstra(t, 3, 2)
	v, e := ring.Judge(r, true)
	if v.Code != ring.Lasso || !ring.IsRound(r, v.Round, true) || ring.IsRound(r, v.Round, false) || e != api.OK {
		t.Errorf("Judge: %v, %d", v, e)
	}
	if !ring.IsRound(r, []int{2, 5}, true) || !ring.IsRound(r, []int{5, 2}, true) || ring.IsRound(r, []int{2, 5}, false) {
		t.Error("IsRound")
	}
	for _, r := range samples(t) {
		m := modelOf(r)
		single, _ := ring.Judge(r, false)
		joint, _ := ring.Judge(r, true)
		if (single.Code == ring.Leaves) != (joint.Code == ring.Leaves) || single.At != joint.At {
			t.Fatalf("%v: %v, %v", r, single, joint)
		}
		for number := range m.configs {
			if m.good(number) && !slices.Equal(m.next[0][number], m.next[1][number]) {
				t.Fatalf("%v: %d", r, number)
			}
		}
	}
}

// TestIsRank: the edge cases that the chapter names.
func TestIsRank(t *testing.T) {
	r := dijkstra(t, 3, 2) // only 2 and 5 are not good, and lead to good ones
	for _, c := range []struct {
		rank []int
		due  bool
	}{
		{[]int{0, 0, 1, 0, 0, 1, 0, 0}, true},
		{[]int{8, 0, 9, 3, 8, 9, 8, 0}, true},
		{[]int{0, 0, math.MaxInt, 0, 0, 1, 0, 0}, true},
		{[]int{0, 0, 0, 0, 0, 1, 0, 0}, false},
		{[]int{0, 0, 1, 1, 0, 1, 0, 0}, false},
		{[]int{0, 0, 1, 2, 0, 3, 0, 0}, false},
		{[]int{0, 0, 1, 0, 0, 1, 0}, false},
		{[]int{0, 0, 1, 0, 0, 1, 0, 0, 0}, false},
		{[]int{-1, 0, 1, 0, 0, 1, 0, 0}, false},
		{[]int{0, 0, 1, 0, 0, 1, 0, -1}, false},
		{[]int{0, 0, 1, math.MinInt, 0, 1, 0, 0}, false},
		{[]int{0, -2, -1, 0, 0, 1, 0, 0}, false},
		{nil, false},
	} {
		if ring.IsRank(r, c.rank) != c.due || modelOf(r).isRank(c.rank) != c.due {
			t.Errorf("%v: %v", c.rank, !c.due)
		}
	}
	// A protocol in which none is ever ready has no steps, so that every list of numbers is a ranking; and one that is left may have one.
	never := make([]int, 8)
	for at := range never {
		never[at] = -1
	}
	if !ring.IsRank(ring.Rules{Machines: 2, Colours: 2, Next: [][]int{never, never}}, []int{0, 3, 0, 0}) {
		t.Error("stuck")
	}
	r = ring.Rules{Machines: 2, Colours: 2, Next: [][]int{{1, -1, 0, -1, -1, 1, -1, 0}, {1, -1, -1, -1, -1, -1, -1, -1}}}
	if v, _ := ring.Judge(r, false); v.Code != ring.Leaves || !ring.IsRank(r, []int{1, 0, 0, 0}) {
		t.Errorf("left: %v", v)
	}
}

// TestIsRound: the edge cases that the chapter names.
func TestIsRound(t *testing.T) {
	r := dijkstra(t, 4, 2)
	v, _ := ring.Judge(r, false)
	round := v.Round
	good, _ := ring.Good(r)
	with := func(at, number int) []int { return slices.Insert(slices.Clone(round), at, number) }
	for _, l := range [][]int{nil, {}, round[:1], {round[0], round[0]}, append(slices.Clone(round), round...), with(0, round[0]), with(1, good[0]), with(0, -1), with(1, 16), with(len(round), math.MaxInt), with(1, math.MinInt), {-1}, {16}, good, {good[0], good[1]}} {
		for _, joint := range []bool{false, true} {
			if ring.IsRound(r, l, joint) {
				t.Errorf("%v, %v: a round", l, joint)
			}
		}
	}
	if !ring.IsRound(r, round, false) || !ring.IsRound(r, append(round[1:], round[0]), false) {
		t.Errorf("%v: no round", round)
	}
	// The good configurations of a steady protocol go round too, but they are good.
	r = dijkstra(t, 3, 3)
	goods, number := []int{}, 0
	for {
		goods = append(goods, number)
		config, _ := ring.Config(r, number)
		config, _ = ring.Play(r, config, []int{0})
		if number, _ = ring.Number(r, config); number == 0 {
			break
		}
	}
	if len(goods) != 9 || ring.IsRound(r, goods, false) || ring.IsRound(r, goods, true) {
		t.Errorf("%v: a round", goods)
	}
}
