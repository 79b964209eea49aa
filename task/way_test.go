package task_test

import (
	"math"
	"math/rand"
	"slices"
	"testing"

	"minikin/api"
	"minikin/task"
)

// distance returns the number of steps of a shortest way from p to a state without steps, or -1.
func distance(s task.System, p int) int {
	near := []int{p}
	for steps := range s.States {
		for _, q := range near {
			if !slices.ContainsFunc(s.Steps, func(x task.Step) bool { return x.From == q }) {
				return steps
			}
		}
		var next []int
		for _, x := range s.Steps {
			if slices.Contains(near, x.From) {
				next = append(next, x.To)
			}
		}
		slices.Sort(next)
		near = slices.Compact(next)
	}
	return -1
}

// TestStuck: P5.6.
func TestStuck(t *testing.T) {
	r := rand.New(rand.NewSource(60))
	line := task.System{States: 64}
	for p := range 63 {
		line.Steps = append(line.Steps, task.Step{From: p, Label: p % 10, To: p + 1})
	}
	list := []task.System{forks, system(1), system(1, 0, 0, 0), system(64), full(), line, ring(64, 0, 0), system(3, 0, 0, 0, 0, 1, 1, 1, 2, 0)}
	for range 300 {
		n := 1 + r.Intn(9)
		list = append(list, random(r, n, r.Intn(3*n), 0, 1, 5))
	}
	for _, s := range list {
		s = within(s)
		before := slices.Clone(around(s))
		for p := range s.States {
			want := distance(s, p)
			way, ok, e := task.Stuck(s, p)
			if ok != (want >= 0) || ok && len(way) != want || !ok && len(way) != 0 || e != api.OK {
				t.Fatalf("Stuck(%v, %d): %v, %v, %d", s, p, way, ok, e)
			}
			at := p
			for i, x := range way {
				if x.From != at || !slices.Contains(s.Steps, x) {
					t.Fatalf("Stuck(%v, %d): %v", s, p, way)
				}
				at = x.To
				way[i] = task.Step{}
			}
			if ok && distance(s, at) != 0 {
				t.Fatalf("Stuck(%v, %d): %v", s, p, way)
			}
		}
		if !slices.Equal(around(s), before) {
			t.Fatalf("Stuck: %v", s)
		}
	}
	if way, ok, e := task.Stuck(line, 0); !slices.Equal(way, line.Steps) || !ok || e != api.OK {
		t.Errorf("Stuck: %v, %v, %d", way, ok, e)
	}
	for _, p := range []int{-1, 9, 63, 64, math.MinInt, math.MaxInt} {
		if way, ok, e := task.Stuck(forks, p); len(way) != 0 || ok || e != api.ErrArg {
			t.Errorf("Stuck(%d): %v, %v, %d", p, way, ok, e)
		}
	}
}

// traces counts lists of n labels by the definition: it makes all ways, and keeps those states that ways with the same labels lead to.
func traces(s task.System, at []int, n int) int64 {
	if len(at) == 0 {
		return 0
	}
	if n == 0 {
		return 1
	}
	number := int64(0)
	for label := range 10 {
		var next []int
		for _, p := range at {
			for _, q := range ends(s, p, label) {
				if !slices.Contains(next, q) {
					next = append(next, q)
				}
			}
		}
		number += traces(s, next, n-1)
	}
	return number
}

// TestTraces: P5.6, and that of P5.8 which is about them.
func TestTraces(t *testing.T) {
	r := rand.New(rand.NewSource(61))
	for range 400 {
		states := 1 + r.Intn(6)
		s := within(random(r, states, r.Intn(3*states), [][]int{{0}, {0, 1}, {1, 2}, {0, 3, 9}}[r.Intn(4)]...))
		before := slices.Clone(around(s))
		counts := make([][]int64, states)
		for p := range states {
			for n := range 7 {
				got, e := task.Traces(s, p, n)
				if want := traces(s, []int{p}, n); got != want || e != api.OK {
					t.Fatalf("Traces(%v, %d, %d): %d, not %d, %d", s, p, n, got, want, e)
				}
				counts[p] = append(counts[p], got)
			}
		}
		follows, _ := task.Follows(s)
		for _, x := range follows {
			if slices.Contains(follows, [2]int{x[1], x[0]}) && !slices.Equal(counts[x[0]], counts[x[1]]) {
				t.Fatalf("%v: %v: %v, %v", s, x, counts[x[0]], counts[x[1]])
			}
		}
		if !slices.Equal(around(s), before) {
			t.Fatalf("Traces: %v", s)
		}
	}
	for range 20 {
		s := random(r, 5, 12, 0, 1)
		if got, e := task.Traces(s, 0, 12); got != traces(s, []int{0}, 12) || e != api.OK {
			t.Fatalf("Traces(%v, 0, 12): %d, %d", s, got, e)
		}
	}
}

// power returns a to the power n.
func power(a int64, n int) int64 {
	out := int64(1)
	for range n {
		out *= a
	}
	return out
}

// TestManyTraces: lists of up to 12 of 10 labels, counted by other means.
func TestManyTraces(t *testing.T) {
	// All labels lead everywhere.
	free := star(1, 0, 10)
	// Which labels were taken 1 to 11 steps before the end is seen from the states, so that no two beginnings lead to the same states.
	memory := task.System{States: 45}
	for label := range 10 {
		memory.Steps = append(memory.Steps, task.Step{From: 0, Label: label, To: 0})
		for bit := range 4 {
			if (label+1)>>bit&1 == 1 {
				memory.Steps = append(memory.Steps, task.Step{From: 0, Label: label, To: 1 + 11*bit})
			}
			for i := range 10 {
				memory.Steps = append(memory.Steps, task.Step{From: 1 + 11*bit + i, Label: label, To: 2 + 11*bit + i})
			}
		}
	}
	for n := range 13 {
		for _, s := range []task.System{free, memory} {
			if got, e := task.Traces(s, 0, n); got != power(10, n) || e != api.OK {
				t.Errorf("Traces(%d states, %d): %d, %d", s.States, n, got, e)
			}
		}
	}
	// Lists of 12 labels of which one is not the one 6 steps before it.
	const k = 6
	for _, x := range []struct {
		n    int
		want int64
	}{{0, 1}, {1, k}, {6, power(k, 6)}, {7, power(k, 7)}, {11, power(k, 11)}, {12, power(k, 12) - power(k, 6)}} {
		if got, e := task.Traces(unlike(k), 0, x.n); got != x.want || e != api.OK {
			t.Errorf("unlike, %d: %d, %d", x.n, got, e)
		}
	}
	for _, n := range []int{-1, 13, 64, math.MinInt, math.MaxInt} {
		if got, e := task.Traces(free, 0, n); got != 0 || e != api.ErrArg {
			t.Errorf("Traces(%d): %d, %d", n, got, e)
		}
	}
	for _, p := range []int{-1, 9, 63, 64, math.MinInt, math.MaxInt} {
		for _, n := range []int{0, 12, 13} {
			if got, e := task.Traces(forks, p, n); got != 0 || e != api.ErrArg {
				t.Errorf("Traces(%d, %d): %d, %d", p, n, got, e)
			}
		}
	}
	if got, e := task.Traces(full(), 63, 12); got <= 0 || e != api.OK {
		t.Errorf("Traces: %d, %d", got, e)
	}
}

// unlike returns a process whose ways keep one of the first 6 labels, and take another one 6 steps later.
func unlike(k int) task.System {
	s := task.System{States: 7 + 6*k}
	step := func(from, label, to int) { s.Steps = append(s.Steps, task.Step{From: from, Label: label, To: to}) }
	last := s.States - 1
	for label := range k {
		kept := 6 + 6*label
		for p := range 6 {
			step(p, label, kept)
			if p < 5 {
				step(p, label, p+1)
			}
		}
		for other := range k {
			for i := range 5 {
				step(kept+i, other, kept+i+1)
			}
			if other != label {
				step(kept+5, other, last)
			}
		}
		step(last, label, last)
	}
	return s
}
