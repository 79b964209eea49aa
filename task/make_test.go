package task_test

import (
	"cmp"
	"math"
	"math/rand"
	"slices"
	"testing"

	"minikin/api"
	"minikin/task"
)

// equal reports whether two processes are the same, with the same list of steps.
func equal(a, b task.System) bool {
	return a.States == b.States && slices.Equal(a.Steps, b.Steps)
}

// inOrder returns the steps by From, Label and To, each once.
func inOrder(steps []task.Step) []task.Step {
	out := slices.Clone(steps)
	slices.SortFunc(out, func(a, b task.Step) int {
		return cmp.Or(cmp.Compare(a.From, b.From), cmp.Compare(a.Label, b.Label), cmp.Compare(a.To, b.To))
	})
	return slices.Compact(out)
}

// bisimilar reports whether the states 0 of a and b are bisimilar next to one another.
func bisimilar(t *testing.T, a, b task.System) bool {
	t.Helper()
	both, e := task.Beside(a, b)
	if e != api.OK {
		t.Fatalf("Beside(%v, %v): %d", a, b, e)
	}
	classes, _ := task.Classes(both)
	return classes[0] == classes[a.States]
}

// least returns the least process of s by the definition.
func least(s task.System) task.System {
	reached := []int{0}
	for i := 0; i < len(reached); i++ {
		for _, x := range s.Steps {
			if x.From == reached[i] && !slices.Contains(reached, x.To) {
				reached = append(reached, x.To)
			}
		}
	}
	slices.Sort(reached)
	like := greatest(s, alike)
	var firsts []int // the least reached state of each class
	number := func(p int) int {
		return slices.IndexFunc(firsts, func(q int) bool { return like[p][q] })
	}
	for _, p := range reached {
		if number(p) < 0 {
			firsts = append(firsts, p)
		}
	}
	var steps []task.Step
	for _, x := range s.Steps {
		if slices.Contains(reached, x.From) {
			steps = append(steps, task.Step{From: number(x.From), Label: x.Label, To: number(x.To)})
		}
	}
	return task.System{States: len(firsts), Steps: inOrder(steps)}
}

// TestLeast: P5.5 and P5.9.
func TestLeast(t *testing.T) {
	r := rand.New(rand.NewSource(57))
	list := []task.System{system(1), system(64), system(1, 0, 3, 0, 0, 3, 0), full(), forks, system(3, 2, 1, 0, 2, 1, 1), system(6, 0, 1, 5, 5, 1, 3, 3, 2, 0, 0, 1, 3)}
	for i := range 400 {
		n := 1 + r.Intn(10)
		list = append(list, random(r, n, r.Intn(2*n), [][]int{{0}, {1, 2}, {0, 1, 9}}[i%3]...))
	}
	for _, s := range list {
		s = within(s)
		before := slices.Clone(around(s))
		got, e := task.Least(s)
		if want := least(s); !equal(got, want) || e != api.OK || !slices.Equal(around(s), before) {
			t.Fatalf("Least(%v): %v, not %v, %d", s, got, want, e)
		}
		if len(got.Steps)+len(s.Steps) <= 500 && got.States+s.States <= api.MaxStates && !bisimilar(t, got, s) {
			t.Fatalf("Least(%v): %v", s, got)
		}
		classes, _ := task.Classes(got)
		for p, class := range classes {
			if p != class {
				t.Fatalf("Least(%v): %v", s, got)
			}
		}
		again, e := task.Least(got)
		if !equal(again, got) || e != api.OK {
			t.Fatalf("Least(%v): %v", got, again)
		}
		if len(got.Steps) > 0 {
			got.Steps[0].Label = -1
			if got, _ = task.Least(s); !equal(got, again) {
				t.Fatalf("Least(%v): then %v", s, got)
			}
		}
	}
	got, _ := task.Least(system(6, 0, 1, 1, 0, 1, 2, 1, 2, 3, 2, 2, 4, 5, 1, 0))
	if !equal(got, system(3, 0, 1, 1, 1, 2, 2)) {
		t.Errorf("Least: %v", got)
	}
}

// TestBeside: P5.5.
func TestBeside(t *testing.T) {
	a, b := within(system(2, 1, 5, 0, 0, 0, 1, 1, 5, 0)), within(system(3, 2, 9, 0, 0, 0, 0))
	before := [][]task.Step{slices.Clone(around(a)), slices.Clone(around(b))}
	want := system(5, 1, 5, 0, 0, 0, 1, 1, 5, 0, 4, 9, 2, 2, 0, 2)
	for range 2 {
		got, e := task.Beside(a, b)
		if !equal(got, want) || e != api.OK || !slices.Equal(around(a), before[0]) || !slices.Equal(around(b), before[1]) {
			t.Fatalf("Beside: %v, %d", got, e)
		}
		for i := range got.Steps {
			got.Steps[i].From = -1
		}
	}
	got, e := task.Beside(a, system(1))
	if !equal(got, task.System{States: 3, Steps: a.Steps}) || e != api.OK {
		t.Errorf("Beside: %v, %d", got, e)
	}
	got.Steps[0].Label = 7
	if !slices.Equal(around(a), before[0]) {
		t.Errorf("Beside: %v", a)
	}
	loops := func(states, steps int) task.System {
		s := system(states)
		for range steps {
			s.Steps = append(s.Steps, task.Step{From: states - 1, Label: 3, To: 0})
		}
		return s
	}
	for _, x := range []struct {
		a, b task.System
		want api.Errno
	}{
		{loops(63, 0), loops(1, 0), api.OK}, {loops(1, 0), loops(63, 500), api.OK}, {loops(32, 250), loops(32, 250), api.OK}, {loops(32, 500), loops(32, 0), api.OK},
		{loops(64, 0), loops(1, 0), api.ErrWide}, {loops(1, 0), loops(64, 0), api.ErrWide}, {loops(64, 500), loops(64, 500), api.ErrWide}, {loops(32, 0), loops(33, 0), api.ErrWide},
		{loops(32, 250), loops(32, 251), api.ErrWide}, {loops(1, 500), loops(1, 1), api.ErrWide}, {loops(1, 1), loops(1, 500), api.ErrWide},
	} {
		got, e := task.Beside(x.a, x.b)
		if e != x.want || e != api.OK && (got.States != 0 || len(got.Steps) != 0) || e == api.OK && (got.States != x.a.States+x.b.States || len(got.Steps) != len(x.a.Steps)+len(x.b.Steps)) {
			t.Errorf("Beside of %d, %d and %d, %d: %v, %d", x.a.States, len(x.a.Steps), x.b.States, len(x.b.Steps), got, e)
		}
	}
}

// join returns the composition by the definition.
func join(a, b task.System, together []int) (task.System, api.Errno) {
	type step struct{ label, p, q int }
	found := [][2]int{{0, 0}}
	var steps []task.Step
	for from := 0; from < len(found); from++ {
		p, q := found[from][0], found[from][1]
		var all []step
		for label := range 10 {
			if slices.Contains(together, label) {
				for _, x := range ends(a, p, label) {
					for _, y := range ends(b, q, label) {
						all = append(all, step{label, x, y})
					}
				}
				continue
			}
			for _, x := range ends(a, p, label) {
				all = append(all, step{label, x, q})
			}
			for _, y := range ends(b, q, label) {
				all = append(all, step{label, p, y})
			}
		}
		slices.SortFunc(all, func(x, y step) int {
			return cmp.Or(cmp.Compare(x.label, y.label), cmp.Compare(x.p, y.p), cmp.Compare(x.q, y.q))
		})
		for _, x := range all {
			to := slices.Index(found, [2]int{x.p, x.q})
			if to < 0 {
				to = len(found)
				found = append(found, [2]int{x.p, x.q})
			}
			steps = append(steps, task.Step{From: from, Label: x.label, To: to})
		}
	}
	steps = inOrder(steps)
	if len(found) > api.MaxStates || len(steps) > 500 {
		return task.System{}, api.ErrWide
	}
	return task.System{States: len(found), Steps: steps}, api.OK
}

// TestJoin: P5.5.
func TestJoin(t *testing.T) {
	r := rand.New(rand.NewSource(58))
	wide := 0
	for range 1500 {
		n, m := 1+r.Intn(14), 1+r.Intn(14)
		a, b := within(random(r, n, r.Intn(3*n), 0, 1, 2, 9)), within(random(r, m, r.Intn(3*m), 0, 1, 2, 9))
		before := [][]task.Step{slices.Clone(around(a)), slices.Clone(around(b))}
		together := r.Perm(9)[:r.Intn(10)]
		for i := range together {
			together[i]++
		}
		labels := append([]int{0}, append(slices.Clone(together), 0)...)
		got, e := task.Join(a, b, labels[1:len(labels)-1])
		want, f := join(a, b, together)
		if !equal(got, want) || e != f || !slices.Equal(labels[1:len(labels)-1], together) {
			t.Fatalf("Join(%v, %v, %v): %v, not %v, %d", a, b, together, got, want, e)
		}
		if !slices.Equal(around(a), before[0]) || !slices.Equal(around(b), before[1]) {
			t.Fatalf("Join: %v, %v", a, b)
		}
		if e == api.ErrWide {
			wide++
		}
		for i := range got.Steps {
			got.Steps[i].To = -1
		}
		if got, _ = task.Join(a, b, together); !equal(got, want) {
			t.Fatalf("Join(%v, %v, %v): then %v", a, b, together, got)
		}
	}
	if wide == 0 || wide > 500 {
		t.Errorf("%d are too wide", wide)
	}
}

// TestJoinOrder: states are numbered as they are found, so that their numbers need not rise with those of the processes' states.
func TestJoinOrder(t *testing.T) {
	a, b := system(3, 0, 2, 1, 0, 1, 2), system(3, 0, 1, 2, 0, 3, 1)
	got, e := task.Join(a, b, []int{3})
	// 0 is (0, 0); 1 is (0, 2) and 2 is (2, 0), by label 1; 3 is (1, 0), by label 2; then 4 is (2, 2) and 5 is (1, 2).
	want := system(6, 0, 1, 1, 0, 1, 2, 0, 2, 3, 1, 1, 4, 1, 2, 5, 2, 1, 4, 3, 1, 5)
	if !equal(got, want) || e != api.OK {
		t.Errorf("Join: %v, %d", got, e)
	}
	if got, e := task.Join(system(1, 0, 0, 0, 0, 1, 0), system(1, 0, 0, 0, 0, 1, 0), nil); !equal(got, system(1, 0, 0, 0, 0, 1, 0)) || e != api.OK {
		t.Errorf("Join: %v, %d", got, e)
	}
	if got, e := task.Join(system(1, 0, 1, 0), system(1), []int{1}); !equal(got, system(1)) || e != api.OK {
		t.Errorf("Join: %v, %d", got, e)
	}
}

// ring returns a process that goes round by steps with the label, with so many steps more from the state 0 to itself.
func ring(states, label, more int) task.System {
	s := system(states)
	for p := range states {
		s.Steps = append(s.Steps, task.Step{From: p, Label: label, To: (p + 1) % states})
	}
	for range more {
		s.Steps = append(s.Steps, task.Step{From: 0, Label: 9, To: 0})
	}
	return s
}

// star returns a process that goes from the state 0 to each by some labels, from the label on.
func star(states, label, labels int) task.System {
	s := system(states)
	for p := range states {
		for l := range labels {
			s.Steps = append(s.Steps, task.Step{From: 0, Label: label + l, To: p})
		}
	}
	return s
}

// TestJoinWide: compositions that are just small enough, and those that are too large (P5.5).
func TestJoinWide(t *testing.T) {
	more := star(25, 0, 10)
	more.Steps = append(more.Steps, task.Step{From: 24, Label: 5, To: 24})
	for _, x := range []struct {
		a, b          task.System
		together      []int
		states, steps int // 0 if they are too many
	}{
		{ring(8, 1, 0), ring(8, 2, 0), nil, 64, 128},
		{ring(8, 1, 0), ring(8, 2, 490), nil, 64, 136},
		{ring(64, 1, 436), ring(1, 2, 499), nil, 64, 192},
		{ring(64, 1, 0), ring(64, 1, 0), []int{1}, 64, 64},
		{ring(8, 1, 0), ring(9, 2, 0), nil, 0, 0},
		{ring(5, 1, 0), ring(13, 2, 0), nil, 0, 0},
		{ring(64, 1, 0), ring(63, 1, 0), []int{1}, 0, 0},
		{ring(64, 1, 0), ring(64, 1, 0), nil, 0, 0},
		{star(8, 1, 1), star(8, 1, 1), []int{1}, 64, 64},
		{star(8, 1, 5), star(8, 1, 5), []int{1, 2, 3, 4, 5}, 64, 320},
		{star(8, 1, 7), star(8, 1, 7), []int{1, 2, 3, 4, 5, 6, 7}, 64, 448},
		{star(8, 1, 8), star(8, 1, 8), []int{1, 2, 3, 4, 5, 6, 7, 8}, 0, 0},
		{star(50, 0, 10), star(1, 1, 0), nil, 50, 500},
		{star(50, 0, 10), star(1, 9, 1), nil, 0, 0}, // the steps of the second one with 9 lead back to where they come from, also from where the first one has none
		{star(25, 0, 10), star(2, 1, 1), []int{3}, 50, 499},
		{more, star(2, 1, 1), []int{3}, 0, 0},
		{star(1, 0, 1), star(50, 0, 10), nil, 0, 0},
	} {
		want, f := join(x.a, x.b, x.together)
		got, e := task.Join(x.a, x.b, x.together)
		if !equal(got, want) || e != f {
			t.Errorf("%v: %d, %d, %d", x, got.States, len(got.Steps), e)
		}
		if (e == api.OK) != (x.steps > 0) || e == api.OK && (got.States != x.states || len(got.Steps) != x.steps) {
			t.Errorf("%d and %d states: %d, %d, %d", x.a.States, x.b.States, got.States, len(got.Steps), e)
		}
	}
}

// TestJoinLabels: labels to be taken together that are 0, out of range or given twice (P5.5).
func TestJoinLabels(t *testing.T) {
	large := ring(64, 1, 0)
	for _, together := range [][]int{{0}, {10}, {-1}, {math.MinInt}, {math.MaxInt}, {1, 1}, {9, 1, 9}, {1, 2, 3, 4, 5, 6, 7, 8, 9, 0}, {1, 2, 3, 4, 5, 6, 7, 8, 9, 10}, {1, 2, 3, 4, 5, 6, 7, 8, 9, 5}, make([]int, 1000), {64}, {65}} {
		for _, x := range [][2]task.System{{forks, forks}, {large, ring(63, 2, 0)}} {
			if got, e := task.Join(x[0], x[1], together); got.States != 0 || len(got.Steps) != 0 || e != api.ErrArg {
				t.Errorf("Join(%v): %v, %d", together, got, e)
			}
		}
	}
	for _, together := range [][]int{nil, {}, {9}, {1}, {9, 8, 7, 6, 5, 4, 3, 2, 1}} {
		got, e := task.Join(system(2, 0, 0, 1), system(2, 0, 0, 1), together)
		if !equal(got, system(4, 0, 0, 1, 0, 0, 2, 1, 0, 3, 2, 0, 3)) || e != api.OK {
			t.Errorf("Join(%v): %v, %d", together, got, e)
		}
	}
}

// TestComposition: P5.10.
func TestComposition(t *testing.T) {
	r := rand.New(rand.NewSource(59))
	tried := 0
	for range 3000 {
		a, c := random(r, 1+r.Intn(4), r.Intn(6), 0, 1, 2), random(r, 1+r.Intn(3), r.Intn(5), 0, 1, 2)
		b := random(r, 1+r.Intn(4), r.Intn(6), 0, 1, 2)
		if r.Intn(2) == 0 {
			b, _ = task.Least(a)
		}
		together := [][]int{nil, {1}, {2}, {2, 1}}[r.Intn(4)]
		one, e := task.Join(a, c, together)
		two, f := task.Join(c, a, together)
		if e != api.OK || f != api.OK || !bisimilar(t, one, two) {
			t.Fatalf("Join(%v, %v, %v): %d, %d", a, c, together, e, f)
		}
		if bisimilar(t, a, b) {
			tried++
			three, e := task.Join(b, c, together)
			if e != api.OK || !bisimilar(t, one, three) {
				t.Fatalf("Join(%v, %v, %v) and of %v: %d", a, c, together, b, e)
			}
		}
	}
	if tried < 1500 {
		t.Errorf("only %d", tried)
	}
}
