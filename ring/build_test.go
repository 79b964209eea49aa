package ring_test

import (
	"math"
	"math/rand"
	"slices"
	"testing"

	"minikin/api"
	"minikin/ring"
)

// TestDijkstra: P8.4's rules, in each configuration of each size.
func TestDijkstra(t *testing.T) {
	for machines := 2; machines <= 6; machines++ {
		for colours := 2; colours <= 6 && machines+colours < 12; colours++ {
			r := dijkstra(t, machines, colours)
			if r.Machines != machines || r.Colours != colours || ring.Check(r) != api.OK {
				t.Fatalf("%d, %d: no protocol", machines, colours)
			}
			m := modelOf(r)
			for _, config := range m.configs {
				for machine, own := range config {
					due := -1
					switch {
					case machine == 0 && own == config[machines-1]:
						due = (own + 1) % colours
					case machine > 0 && own != config[machine-1]:
						due = config[machine-1]
					}
					if got := m.takes(config, machine); got != due {
						t.Fatalf("%v: %v, machine %d: %d, not %d", r, config, machine, got, due)
					}
				}
			}
		}
	}
	for _, size := range [][2]int{{1, 2}, {7, 2}, {2, 1}, {2, 7}, {6, 6}, {0, 0}, {0, 3}, {3, 0}, {-2, 2}, {2, -2}, {math.MaxInt, 2}, {2, math.MaxInt}, {math.MinInt, math.MinInt}} {
		if r, e := ring.Dijkstra(size[0], size[1]); e != api.ErrArg || r.Machines != 0 || r.Colours != 0 || len(r.Next) > 0 {
			t.Errorf("%v: %v, %d", size, r, e)
		}
	}
}

// TestDijkstraSteady: P8.6, and that one colour less is too few.
func TestDijkstraSteady(t *testing.T) {
	for machines := 2; machines <= 6; machines++ {
		for colours := 2; colours <= 6 && machines+colours < 12; colours++ {
			r := dijkstra(t, machines, colours)
			v, e := ring.Judge(r, false)
			due := ring.Steady
			if colours < machines-1 {
				due = ring.Lasso
			}
			if v.Code != due || e != api.OK || due == ring.Lasso && !ring.IsRound(r, v.Round, false) {
				t.Errorf("%d, %d: %v, %d", machines, colours, v, e)
			}
			rank, e := ring.Rank(r)
			if due == ring.Steady && (e != api.OK || !ring.IsRank(r, rank) || slices.Max(rank) != v.Most) {
				t.Errorf("%d, %d: Rank: %v, %d", machines, colours, rank, e)
			}
		}
	}
	for _, c := range []struct{ machines, colours, most int }{{2, 2, 0}, {3, 2, 1}, {4, 3, 13}, {5, 4, 24}, {6, 5, 38}} {
		if v, _ := ring.Judge(dijkstra(t, c.machines, c.colours), false); v.Most != c.most {
			t.Errorf("%v: %d", c, v.Most)
		}
	}
}

// pin is a machine of the protocol with four colours.
type pin struct{ x, u int }

// pins reads a configuration, where machine 0 behaves as if its u were 1, and the last one as if it were 0.
func pins(config []int) []pin {
	var l []pin
	for _, colour := range config {
		l = append(l, pin{colour / 2, colour % 2})
	}
	l[0].u, l[len(l)-1].u = 1, 0
	return l
}

// fourTakes returns the colour that a machine takes by P8.4's rules, or -1.
func fourTakes(config []int, machine int) int {
	l := pins(config)
	own := l[machine]
	if machine == 0 {
		if l[1] == (pin{own.x, 0}) {
			return 2*(1-own.x) + 1
		}
		return -1
	}
	before := l[machine-1]
	switch {
	case machine == len(l)-1 && before.x != own.x:
		return 2 * before.x
	case machine == len(l)-1:
		return -1
	case before.x != own.x:
		return 2*before.x + 1
	case own.u == 1 && l[machine+1] == (pin{own.x, 0}):
		return 2 * own.x
	}
	return -1
}

// TestFour: P8.4's rules, in each configuration of each size.
func TestFour(t *testing.T) {
	for machines := 3; machines <= 6; machines++ {
		r := four(t, machines)
		if r.Machines != machines || r.Colours != 4 || ring.Check(r) != api.OK {
			t.Fatalf("%d: no protocol", machines)
		}
		m := modelOf(r)
		for _, config := range m.configs {
			for machine := range machines {
				if got, due := m.takes(config, machine), fourTakes(config, machine); got != due {
					t.Fatalf("%v: %v, machine %d: %d, not %d", r, config, machine, got, due)
				}
			}
		}
		for _, joint := range []bool{false, true} {
			if v, e := ring.Judge(r, joint); v.Code != ring.Steady || v.Most != []int{2, 6, 12, 20}[machines-3] || e != api.OK {
				t.Errorf("%d, %v: %v, %d", machines, joint, v, e)
			}
		}
	}
	for _, machines := range []int{2, 7, 1, 0, -3, math.MaxInt, math.MinInt} {
		if r, e := ring.Four(machines); e != api.ErrArg || r.Machines != 0 || r.Colours != 0 || len(r.Next) > 0 {
			t.Errorf("%d: %v, %d", machines, r, e)
		}
	}
}

// TestRest: P8.8, from each configuration of steady protocols, with random choices and with those that put the good ones off as long as possible.
func TestRest(t *testing.T) {
	rnd := rand.New(rand.NewSource(88))
	protocols := []ring.Rules{dijkstra(t, 2, 6), dijkstra(t, 4, 3), dijkstra(t, 5, 4), four(t, 3), four(t, 5)}
	for _, r := range samples(t) {
		if v, _ := ring.Judge(r, false); v.Code == ring.Steady {
			protocols = append(protocols, r)
		}
	}
	for _, r := range protocols {
		v, _ := ring.Judge(r, false)
		rank, _ := ring.Rank(r)
		good, _ := ring.Good(r)
		longest := 0
		for number := range rank {
			start, _ := ring.Config(r, number)
			choices := make([]int, v.Most+rnd.Intn(10))
			for i := range choices {
				choices[i] = rnd.Int()
			}
			end, e := ring.Play(r, start, choices)
			if at, _ := ring.Number(r, end); e != api.OK || !slices.Contains(good, at) {
				t.Fatalf("%v: from %v with %v: %v, %d", r, start, choices, end, e)
			}
			steps := putOff(r, rank, start)
			if steps != rank[number] {
				t.Fatalf("%v: from %v: %d steps, not %d", r, start, steps, rank[number])
			}
			longest = max(longest, steps)
		}
		if longest != v.Most {
			t.Fatalf("%v: %d, not %d", r, longest, v.Most)
		}
	}
}

// putOff takes the steps to the greatest numbers of a ranking, and returns how many there are until a configuration is good.
func putOff(r ring.Rules, rank, config []int) int {
	for steps := 0; ; steps++ {
		ready, _ := ring.Ready(r, config)
		if len(ready) == 1 {
			return steps
		}
		best, next := -1, config
		for choice := range ready {
			to, _ := ring.Play(r, config, []int{choice})
			if at, _ := ring.Number(r, to); rank[at] > best {
				best, next = rank[at], to
			}
		}
		config = next
	}
}
