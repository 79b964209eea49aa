package ring_test

import (
	"math"
	"reflect"
	"slices"
	"testing"
	"time"

	"minikin/api"
	"minikin/ring"
)

// results calls everything that takes a protocol, with arguments that suit three machines with two colours.
func results(r ring.Rules, config, machines, choices, list []int) []any {
	var l []any
	number, e := ring.Number(r, config)
	l = append(l, number, e)
	got, e := ring.Config(r, 5)
	l = append(l, got, e)
	got, e = ring.Ready(r, config)
	l = append(l, got, e)
	got, e = ring.Step(r, config, machines)
	l = append(l, got, e)
	got, e = ring.Good(r)
	l = append(l, got, e)
	for _, joint := range []bool{false, true} {
		v, e := ring.Judge(r, joint)
		l = append(l, v, e, ring.IsRound(r, list, joint))
	}
	got, e = ring.Rank(r)
	l = append(l, got, e, ring.IsRank(r, list))
	got, e = ring.Play(r, config, choices)
	return append(l, got, e, ring.Check(r))
}

// TestNoProtocols: P8.1 for data that are no protocol, in all calls.
func TestNoProtocols(t *testing.T) {
	table := func(colours, at, entry int) []int {
		l := make([]int, colours*colours*colours)
		for i := range l {
			l[i] = -1
		}
		if at >= 0 {
			l[at] = entry
		}
		return l
	}
	tables := func(machines, colours int) [][]int {
		var l [][]int
		for range machines {
			l = append(l, table(colours, -1, 0))
		}
		return l
	}
	with := func(at, entry int) ring.Rules {
		return ring.Rules{Machines: 3, Colours: 2, Next: [][]int{table(2, -1, 0), table(2, at, entry), table(2, -1, 0)}}
	}
	for _, r := range []ring.Rules{
		{2, 2, tables(2, 2)}, {6, 2, tables(6, 2)}, {2, 6, tables(2, 6)}, {6, 5, tables(6, 5)}, {5, 6, tables(5, 6)},
		with(0, 1), with(1, 1), with(2, 0), with(7, 0), with(3, -1),
	} {
		if e := ring.Check(r); e != api.OK {
			t.Errorf("%d, %d: %d", r.Machines, r.Colours, e)
		}
	}
	for _, r := range []ring.Rules{
		{},
		{1, 2, tables(1, 2)}, {7, 2, tables(7, 2)}, {2, 1, tables(2, 1)}, {2, 7, tables(2, 7)},
		{6, 6, tables(6, 6)},
		{0, 2, nil}, {2, 0, tables(2, 0)}, {-2, 2, tables(2, 2)}, {2, -2, tables(2, 2)}, {-2, -2, tables(2, 2)},
		{math.MaxInt, 2, tables(2, 2)}, {2, math.MaxInt, tables(2, 2)}, {math.MinInt, math.MinInt, tables(2, 2)}, {2, math.MinInt, tables(2, 2)},
		{3, 2, nil}, {3, 2, tables(2, 2)}, {3, 2, tables(4, 2)}, {3, 2, tables(3, 3)}, {3, 3, tables(3, 2)},
		{3, 2, [][]int{table(2, -1, 0), nil, table(2, -1, 0)}},
		{3, 2, [][]int{table(2, -1, 0), table(2, -1, 0)[:7], table(2, -1, 0)}},
		{3, 2, [][]int{table(2, -1, 0), table(2, -1, 0), append(table(2, -1, 0), -1)}},
		with(0, -2), with(0, 2), with(0, 0), with(1, 0), with(4, 0), with(2, 1), with(7, 1), with(0, math.MaxInt), with(7, math.MinInt),
	} {
		for _, config := range [][]int{{0, 1, 0}, {0, 1}, {5, 5, 5}} {
			got := results(r, config, []int{0}, []int{0}, []int{0, 0, 1, 0, 0, 1, 0, 0})
			none := []int(nil)
			due := []any{0, api.ErrRules, none, api.ErrRules, none, api.ErrRules, none, api.ErrRules, none, api.ErrRules, ring.Verdict{}, api.ErrRules, false, ring.Verdict{}, api.ErrRules, false, none, api.ErrRules, false, none, api.ErrRules, api.ErrRules}
			if !reflect.DeepEqual(got, due) {
				t.Errorf("%v: %v", r, got)
			}
		}
	}
}

// TestErrors: P8.1's and P8.2's errors of configurations, and which of several errors is returned.
func TestErrors(t *testing.T) {
	r := dijkstra(t, 3, 2)
	for _, c := range []struct {
		config []int
		due    api.Errno
	}{
		{nil, api.ErrShape}, {[]int{0, 1}, api.ErrShape}, {[]int{0, 1, 0, 0}, api.ErrShape},
		{[]int{-1, 7}, api.ErrShape}, {[]int{5, 5, 5, 5}, api.ErrShape},
		{[]int{0, 1, 2}, api.ErrArg}, {[]int{-1, 1, 0}, api.ErrArg}, {[]int{0, math.MaxInt, 0}, api.ErrArg}, {[]int{math.MinInt, 0, 0}, api.ErrArg},
	} {
		number, e := ring.Number(r, c.config)
		if number != 0 || e != c.due {
			t.Errorf("Number(%v): %d, %d", c.config, number, e)
		}
		ready, e := ring.Ready(r, c.config)
		if len(ready) > 0 || e != c.due {
			t.Errorf("Ready(%v): %v, %d", c.config, ready, e)
		}
		for _, other := range [][]int{nil, {0}, {-1}, {1, 0}} {
			to, e := ring.Step(r, c.config, other)
			if len(to) > 0 || e != c.due {
				t.Errorf("Step(%v, %v): %v, %d", c.config, other, to, e)
			}
			to, e = ring.Play(r, c.config, other)
			if len(to) > 0 || e != c.due {
				t.Errorf("Play(%v, %v): %v, %d", c.config, other, to, e)
			}
		}
	}
}

// TestArguments: arguments are neither changed nor kept, what lies beyond their length is not read, and results are new memory (R4, R7).
func TestArguments(t *testing.T) {
	plain := dijkstra(t, 3, 2)
	within := func(l ...int) []int { return append(slices.Clone(l), 77, -7)[:len(l)] }
	r := ring.Rules{Machines: 3, Colours: 2}
	for _, table := range plain.Next {
		r.Next = append(r.Next, within(table...))
	}
	r.Next = append(r.Next, nil)[:3]
	config, machines, choices, list := within(0, 1, 0), within(0, 2), within(4, 0, 7), within(0, 0, 1, 0, 0, 1, 0, 0)
	due := results(plain, []int{0, 1, 0}, []int{0, 2}, []int{4, 0, 7}, []int{0, 0, 1, 0, 0, 1, 0, 0})
	for range 2 {
		got := results(r, config, machines, choices, list)
		if !reflect.DeepEqual(got, due) {
			t.Errorf("%v, not %v", got, due)
		}
		for _, result := range got {
			if l, ok := result.([]int); ok {
				spoil(l)
			}
			if v, ok := result.(ring.Verdict); ok {
				spoil(v.Round)
			}
		}
		same, _ := ring.Play(r, config, nil)
		spoil(same)
	}
	for i, table := range r.Next {
		if !slices.Equal(table, plain.Next[i]) || !slices.Equal(table[:10], append(slices.Clone(table), 77, -7)) {
			t.Error("a table is changed")
		}
	}
	for _, l := range [][]int{config, machines, choices, list} {
		if long := l[:len(l)+2]; long[len(l)] != 77 || long[len(l)+1] != -7 {
			t.Errorf("%v is changed", long)
		}
	}
	if !slices.Equal(config, []int{0, 1, 0}) || !slices.Equal(machines, []int{0, 2}) || !slices.Equal(choices, []int{4, 0, 7}) || !slices.Equal(list, []int{0, 0, 1, 0, 0, 1, 0, 0}) {
		t.Error("arguments are changed")
	}
}

// spoil changes all of a result, and what lies beyond its length.
func spoil(l []int) {
	l = l[:cap(l)]
	for i := range l {
		l[i] = -99
	}
}

// TestTables: the tables of a protocol that is built share no memory.
func TestTables(t *testing.T) {
	for _, build := range []func() ring.Rules{func() ring.Rules { return dijkstra(t, 4, 3) }, func() ring.Rules { return four(t, 5) }} {
		due := build()
		for machine := range due.Machines {
			r := build()
			spoil(r.Next[machine])
			for other := range due.Machines {
				if other != machine && !slices.Equal(r.Next[other], due.Next[other]) {
					t.Errorf("tables %d and %d share memory", machine, other)
				}
			}
			if !reflect.DeepEqual(build(), due) {
				t.Error("tables are kept")
			}
		}
	}
}

// TestAnyArguments: no call panics (P1).
func TestAnyArguments(t *testing.T) {
	numbers := []int{math.MinInt, -7, -1, 0, 1, 2, 3, 6, 7, 8, 20000, math.MaxInt}
	lists := [][]int{nil, {0}, {0, 1, 0}, {2, 5}, {-1, 5, 70}, {math.MaxInt, math.MinInt, 0}, numbers, make([]int, 8), make([]int, 216)}
	tables := [][][]int{nil, {nil, nil, nil}, {make([]int, 8), make([]int, 8)}, dijkstra(t, 3, 2).Next, dijkstra(t, 2, 6).Next}
	for _, a := range numbers {
		for _, b := range numbers {
			ring.Dijkstra(a, b)
			for _, next := range tables {
				r := ring.Rules{Machines: a, Colours: b, Next: next}
				ring.Config(r, b)
				ring.Judge(r, a > b)
				ring.Good(r)
				ring.Rank(r)
				for _, l := range lists {
					ring.Number(r, l)
					ring.Ready(r, l)
					ring.IsRank(r, l)
					ring.IsRound(r, l, true)
					for _, other := range lists {
						ring.Step(r, l, other)
						ring.Play(r, l, other)
					}
				}
			}
		}
		ring.Four(a)
	}
}

// TestLimits: the largest protocols, and those with the most joint steps, take moments.
func TestLimits(t *testing.T) {
	at := time.Now()
	for _, r := range []ring.Rules{dijkstra(t, 6, 5), counters(6, 5), counters(5, 6), dijkstra(t, 6, 4)} {
		for _, joint := range []bool{false, true} {
			v, e := ring.Judge(r, joint)
			if e != api.OK || v.Code == ring.Lasso && !ring.IsRound(r, v.Round, joint) {
				t.Errorf("%v, %d", v, e)
			}
		}
	}
	if d := time.Since(at); d > 10*time.Second {
		t.Errorf("%v", d)
	}
}

// counters returns a protocol in which all machines are always ready, and take the next colour.
func counters(machines, colours int) ring.Rules {
	r := ring.Rules{Machines: machines, Colours: colours}
	for range machines {
		var table []int
		for range colours {
			for own := range colours {
				for range colours {
					table = append(table, (own+1)%colours)
				}
			}
		}
		r.Next = append(r.Next, table)
	}
	return r
}
