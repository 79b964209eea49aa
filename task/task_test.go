package task_test

import (
	"math"
	"math/rand"
	"slices"
	"testing"

	"minikin/api"
	"minikin/task"
)

// system returns a process with the steps l: from, label, to, and so on.
func system(states int, l ...int) task.System {
	s := task.System{States: states}
	for i := 0; i < len(l); i += 3 {
		s.Steps = append(s.Steps, task.Step{From: l[i], Label: l[i+1], To: l[i+2]})
	}
	return s
}

// forks is the document's first example.
var forks = system(9, 0, 1, 1, 1, 2, 2, 1, 3, 3, 4, 1, 5, 4, 1, 6, 5, 2, 7, 6, 3, 8)

// random returns a process with random steps that have some of the labels, some of them twice.
func random(r *rand.Rand, states, steps int, labels ...int) task.System {
	s := task.System{States: states}
	for len(s.Steps) < steps {
		if n := len(s.Steps); n > 0 && r.Intn(8) == 0 {
			s.Steps = append(s.Steps, s.Steps[r.Intn(n)])
		} else {
			s.Steps = append(s.Steps, task.Step{From: r.Intn(states), Label: labels[r.Intn(len(labels))], To: r.Intn(states)})
		}
	}
	return s
}

// within returns s with its steps in the middle of an array whose other steps are none.
func within(s task.System) task.System {
	wrong := task.Step{From: -1, Label: 99, To: 1000}
	all := append(append([]task.Step{wrong}, s.Steps...), wrong, wrong)
	return task.System{States: s.States, Steps: all[1 : 1+len(s.Steps)]}
}

// around returns all of the array in which within put the steps.
func around(s task.System) []task.Step {
	return s.Steps[:cap(s.Steps)]
}

// full returns a process with the greatest numbers of states and steps, and all labels.
func full() task.System {
	s := task.System{States: api.MaxStates}
	for i := range 500 {
		s.Steps = append(s.Steps, task.Step{From: i % 64, Label: i % 10, To: i * 7 % 64})
	}
	return s
}

// wrong are data that are no processes.
func wrong() []task.System {
	out := []task.System{{}, {States: -1}, {States: math.MinInt}, {States: 65}, {States: math.MaxInt}, {Steps: []task.Step{{}}}}
	many := full()
	many.Steps = append(many.Steps, many.Steps[0])
	out = append(out, many)
	for _, x := range [][3]int{{-1, 0, 0}, {3, 0, 0}, {math.MinInt, 0, 0}, {math.MaxInt, 0, 0}, {0, 0, -1}, {0, 0, 3}, {0, 0, math.MinInt}, {0, 0, math.MaxInt}, {0, -1, 0}, {0, 10, 0}, {0, math.MinInt, 0}, {0, math.MaxInt, 0}, {64, 0, 0}, {0, 0, 64}} {
		out = append(out, system(3, 0, 1, 2, x[0], x[1], x[2]), system(3, x[0], x[1], x[2], 0, 1, 2))
	}
	return out
}

// ends returns the states to which steps of s with the label lead from p, by the list of steps.
func ends(s task.System, p, label int) []int {
	var out []int
	for _, x := range s.Steps {
		if x.From == p && x.Label == label {
			out = append(out, x.To)
		}
	}
	return out
}

// goes returns the states to which p goes by the label, or by hidden steps alone if it is 0, by the definition.
func goes(s task.System, p, label int) []int {
	quiet := func(from []int) []int {
		met := slices.Clone(from)
		for i := 0; i < len(met); i++ {
			for _, q := range ends(s, met[i], 0) {
				if !slices.Contains(met, q) {
					met = append(met, q)
				}
			}
		}
		return met
	}
	out := quiet([]int{p})
	if label != 0 {
		var next []int
		for _, q := range out {
			next = append(next, ends(s, q, label)...)
		}
		out = quiet(next)
	}
	return out
}

// kept returns what find returns, which it asks only once for the same.
func kept(s task.System, find func(s task.System, p, label int) []int) func(p, label int) []int {
	known := map[[2]int][]int{}
	return func(p, label int) []int {
		out, ok := known[[2]int{p, label}]
		if !ok {
			out = find(s, p, label)
			known[[2]int{p, label}] = out
		}
		return out
	}
}

// relation says which pairs it has.
type relation [][]bool

func related(states int, has func(p, q int) bool) relation {
	r := make(relation, states)
	for p := range r {
		for q := range states {
			r[p] = append(r[p], has(p, q))
		}
	}
	return r
}

// answered is the condition of the definitions: for each step of p, q comes by answers to a state such that ok has the two.
func answered(s task.System, p, q int, answers func(q, label int) []int, ok func(p, q int) bool) bool {
	for _, x := range s.Steps {
		if x.From == p && !slices.ContainsFunc(answers(q, x.Label), func(end int) bool { return ok(x.To, end) }) {
			return false
		}
	}
	return true
}

// stands reports whether a relation meets a condition on each of its pairs.
func (r relation) stands(condition func(p, q int) bool) bool {
	for p := range r {
		for q, is := range r[p] {
			if is && !condition(p, q) {
				return false
			}
		}
	}
	return true
}

// conditions are those of a likeness, of following, and of weak likeness.
func conditions(s task.System, r relation) (like, follow, weak func(p, q int) bool) {
	steps, ways := kept(s, ends), kept(s, goes)
	here := func(p, q int) bool { return r[p][q] }
	there := func(q, p int) bool { return r[p][q] }
	follow = func(p, q int) bool { return answered(s, p, q, steps, here) }
	like = func(p, q int) bool { return follow(p, q) && answered(s, q, p, steps, there) }
	weak = func(p, q int) bool {
		return answered(s, p, q, ways, here) && answered(s, q, p, ways, there)
	}
	return like, follow, weak
}

// greatest returns the greatest relation that meets a condition: it takes off pairs that do not meet it.
func greatest(s task.System, which func(like, follow, weak func(p, q int) bool) func(p, q int) bool) relation {
	r := related(s.States, func(p, q int) bool { return true })
	condition := which(conditions(s, r))
	for changed := true; changed; {
		changed = false
		for p := range r {
			for q, is := range r[p] {
				if is && !condition(p, q) {
					r[p][q], changed = false, true
				}
			}
		}
	}
	return r
}

func alike(like, _, _ func(p, q int) bool) func(p, q int) bool       { return like }
func following(_, follow, _ func(p, q int) bool) func(p, q int) bool { return follow }
func weakly(_, _, weak func(p, q int) bool) func(p, q int) bool      { return weak }

// classesOf returns the classes of an equivalence by their definition.
func classesOf(r relation) []int {
	out, number := make([]int, len(r)), 0
	for p := range r {
		if first := slices.Index(r[p], true); first < p {
			out[p] = out[first]
		} else {
			out[p] = number
			number++
		}
	}
	return out
}

// pairsOf returns the pairs of r, ordered.
func pairsOf(r relation) [][2]int {
	var out [][2]int
	for p := range r {
		for q, is := range r[p] {
			if is {
				out = append(out, [2]int{p, q})
			}
		}
	}
	return out
}

// compared holds Classes, Hidden and Follows of s against relations, and checks P5.8.
func compared(t *testing.T, s task.System, like, follow, weak relation) {
	t.Helper()
	s = within(s)
	before := slices.Clone(around(s))
	classes, e := task.Classes(s)
	hidden, f := task.Hidden(s)
	follows, g := task.Follows(s)
	if e != api.OK || f != api.OK || g != api.OK || task.Check(s) != api.OK || !slices.Equal(around(s), before) {
		t.Fatalf("%v: %d, %d, %d", s, e, f, g)
	}
	if !slices.Equal(classes, classesOf(like)) || !slices.Equal(hidden, classesOf(weak)) || !slices.Equal(follows, pairsOf(follow)) {
		t.Fatalf("%v: Classes %v, Hidden %v, Follows %v", s, classes, hidden, follows)
	}
	labelled := !slices.ContainsFunc(s.Steps, func(x task.Step) bool { return x.Label == 0 })
	if labelled && !slices.Equal(classes, hidden) {
		t.Fatalf("%v: Classes %v, Hidden %v", s, classes, hidden)
	}
	for p := range s.States {
		for q := range s.States {
			if classes[p] == classes[q] && (hidden[p] != hidden[q] || !slices.Contains(follows, [2]int{p, q})) {
				t.Fatalf("%v: %d and %d: Hidden %v, Follows %v", s, p, q, hidden, follows)
			}
		}
	}
	if len(follows) > 0 {
		classes[0], hidden[0], follows[0] = -1, -1, [2]int{-1, -1}
		classes, _ = task.Classes(s)
		hidden, _ = task.Hidden(s)
		follows, _ = task.Follows(s)
		if classes[0] != 0 || hidden[0] != 0 || follows[0] != [2]int{0, 0} {
			t.Fatalf("%v: then %v, %v, %v", s, classes, hidden, follows)
		}
	}
}

// TestRelations takes the definitions as they are: unions of all relations of up to three states that meet the conditions (P5.1, P5.2, P5.4, P5.8).
func TestRelations(t *testing.T) {
	r := rand.New(rand.NewSource(51))
	for range 300 {
		n := 1 + r.Intn(3)
		s := random(r, n, r.Intn(7), 0, 0, 1, 9)
		like := related(n, func(p, q int) bool { return false })
		follow, weak := related(n, func(p, q int) bool { return false }), related(n, func(p, q int) bool { return false })
		for bits := range 1 << (n * n) {
			x := related(n, func(p, q int) bool { return bits>>(p*n+q)&1 == 1 })
			a, b, c := conditions(s, x)
			isLike, isFollow, isWeak := x.stands(a), x.stands(b), x.stands(c)
			for _, y := range pairsOf(x) {
				like[y[0]][y[1]] = like[y[0]][y[1]] || isLike
				follow[y[0]][y[1]] = follow[y[0]][y[1]] || isFollow
				weak[y[0]][y[1]] = weak[y[0]][y[1]] || isWeak
			}
			// Pairs of each state with itself are added to those of a list.
			pairs := pairsOf(x)
			for p := range n {
				x[p][p] = true
			}
			a, _, _ = conditions(s, x)
			if task.IsLikeness(s, pairs) != x.stands(a) {
				t.Fatalf("IsLikeness(%v, %v)", s, pairs)
			}
		}
		compared(t, s, like, follow, weak)
	}
}

func TestGreatestRelations(t *testing.T) {
	r := rand.New(rand.NewSource(52))
	for i := range 300 {
		n := 2 + r.Intn(9)
		labels := [][]int{{0}, {1}, {0, 1}, {0, 0, 0, 1, 2}, {3, 4}, {0, 1, 2, 3, 4, 5, 6, 7, 8, 9}}[i%6]
		s := random(r, n, r.Intn(3*n), labels...)
		compared(t, s, greatest(s, alike), greatest(s, following), greatest(s, weakly))
	}
	for _, s := range []task.System{forks, system(1), system(1, 0, 0, 0), system(64), system(2, 0, 1, 1, 0, 1, 1)} {
		compared(t, s, greatest(s, alike), greatest(s, following), greatest(s, weakly))
	}
	for _, s := range []task.System{full(), random(r, 64, 500, 0, 1), random(r, 64, 130, 0, 1, 2)} {
		compared(t, s, greatest(s, alike), greatest(s, following), greatest(s, weakly))
	}
}

func TestExamples(t *testing.T) {
	follows, _ := task.Follows(forks)
	if !slices.Contains(follows, [2]int{4, 0}) || slices.Contains(follows, [2]int{0, 4}) {
		t.Errorf("Follows: %v", follows)
	}
	classes, _ := task.Classes(forks)
	if !slices.Equal(classes, []int{0, 1, 2, 2, 3, 4, 5, 2, 2}) {
		t.Errorf("Classes: %v", classes)
	}
	s := system(5, 0, 0, 1, 1, 1, 2, 3, 1, 4)
	classes, _ = task.Classes(s)
	hidden, _ := task.Hidden(s)
	if !slices.Equal(classes, []int{0, 1, 2, 1, 2}) || !slices.Equal(hidden, []int{0, 0, 1, 0, 1}) {
		t.Errorf("Classes %v, Hidden %v", classes, hidden)
	}
	// Hidden steps in a circle mean nothing, but a choice that one of them takes does.
	s = system(9, 0, 0, 1, 1, 0, 2, 2, 0, 0, 1, 1, 3, 4, 1, 3, 5, 0, 6, 5, 2, 3, 6, 1, 3, 7, 1, 3, 7, 2, 3, 8, 0, 8)
	hidden, _ = task.Hidden(s)
	if !slices.Equal(hidden, []int{0, 0, 0, 1, 0, 2, 0, 3, 1}) {
		t.Errorf("Hidden: %v", hidden)
	}
}

// TestPairs: likenesses have ordered pairs of states, in any number and in any order (P5.2).
func TestPairs(t *testing.T) {
	s := system(6, 0, 1, 1, 2, 1, 3, 4, 2, 5)
	for _, x := range []struct {
		pairs [][2]int
		want  bool
	}{
		{nil, true}, {[][2]int{}, true}, {[][2]int{{0, 0}, {5, 5}}, true},
		{[][2]int{{1, 3}}, true}, {[][2]int{{3, 1}, {1, 5}}, true}, {[][2]int{{0, 2}}, false},
		{[][2]int{{0, 2}, {1, 3}}, true}, {[][2]int{{1, 3}, {0, 2}, {0, 2}}, true}, {[][2]int{{0, 2}, {3, 1}}, false},
		{[][2]int{{2, 0}, {3, 1}}, true}, {[][2]int{{0, 4}}, false}, {[][2]int{{0, 1}}, false}, {[][2]int{{1, 0}}, false},
		{[][2]int{{1, 3}, {6, 0}}, false}, {[][2]int{{1, 3}, {0, 6}}, false}, {[][2]int{{-1, -1}}, false}, {[][2]int{{6, 6}}, false}, {[][2]int{{63, 63}}, false}, {[][2]int{{64, 64}}, false},
		{[][2]int{{math.MinInt, 0}}, false}, {[][2]int{{0, math.MaxInt}}, false},
	} {
		if task.IsLikeness(s, x.pairs) != x.want {
			t.Errorf("%v: not %v", x.pairs, x.want)
		}
	}
	all := [][2]int{{9, 9}, {0, 2}, {1, 3}, {9, 9}}
	if !task.IsLikeness(s, all[1:3]) || !slices.Equal(all, [][2]int{{9, 9}, {0, 2}, {1, 3}, {9, 9}}) {
		t.Errorf("%v", all)
	}
	if !task.IsLikeness(system(64), slices.Repeat([][2]int{{63, 0}, {0, 63}}, 5000)) {
		t.Error("many pairs")
	}
	// All pairs of bisimilar states are a likeness, and stop being one with any other pair.
	r := rand.New(rand.NewSource(53))
	for range 100 {
		s := random(r, 6, 8, 0, 1)
		classes, _ := task.Classes(s)
		var pairs [][2]int
		for p := range 6 {
			for q := range 6 {
				if classes[p] == classes[q] {
					pairs = append(pairs, [2]int{p, q})
				}
			}
		}
		if !task.IsLikeness(s, pairs) {
			t.Fatalf("IsLikeness(%v, %v)", s, pairs)
		}
		for p := range 6 {
			for q := range 6 {
				if classes[p] != classes[q] && task.IsLikeness(s, append(slices.Clone(pairs), [2]int{p, q})) {
					t.Fatalf("%v: %d, %d", s, p, q)
				}
			}
		}
	}
}

// TestNoProcess: ErrSystem comes before all other errors (P5.1).
func TestNoProcess(t *testing.T) {
	for _, s := range wrong() {
		if e := task.Check(s); e != api.ErrSystem {
			t.Errorf("Check(%v): %d", s, e)
		}
		if l, e := task.Classes(s); len(l) != 0 || e != api.ErrSystem {
			t.Errorf("Classes(%v): %v, %d", s, l, e)
		}
		if l, e := task.Hidden(s); len(l) != 0 || e != api.ErrSystem {
			t.Errorf("Hidden(%v): %v, %d", s, l, e)
		}
		if l, e := task.Follows(s); len(l) != 0 || e != api.ErrSystem {
			t.Errorf("Follows(%v): %v, %d", s, l, e)
		}
		for _, p := range []int{0, -1, 99} {
			if f, ok, e := task.Part(s, p, p); f != "" || ok || e != api.ErrSystem {
				t.Errorf("Part(%v): %q, %v, %d", s, f, ok, e)
			}
			if way, ok, e := task.Stuck(s, p); len(way) != 0 || ok || e != api.ErrSystem {
				t.Errorf("Stuck(%v): %v, %v, %d", s, way, ok, e)
			}
			for _, n := range []int{0, 13} {
				if n, e := task.Traces(s, p, n); n != 0 || e != api.ErrSystem {
					t.Errorf("Traces(%v): %d, %d", s, n, e)
				}
			}
			for _, f := range []string{"T", "", long(100001)} {
				if is, e := task.Holds(s, p, f); is || e != api.ErrSystem {
					t.Errorf("Holds(%v): %v, %d", s, is, e)
				}
				if l, e := task.Where(s, f); len(l) != 0 || e != api.ErrSystem {
					t.Errorf("Where(%v): %v, %d", s, l, e)
				}
			}
		}
		if task.IsLikeness(s, nil) {
			t.Errorf("IsLikeness(%v)", s)
		}
		if x, e := task.Least(s); x.States != 0 || len(x.Steps) != 0 || e != api.ErrSystem {
			t.Errorf("Least(%v): %v, %d", s, x, e)
		}
		for _, x := range [][2]task.System{{s, forks}, {forks, s}, {s, s}, {s, full()}, {full(), s}} {
			if y, e := task.Beside(x[0], x[1]); y.States != 0 || len(y.Steps) != 0 || e != api.ErrSystem {
				t.Errorf("Beside(%v): %v, %d", x, y, e)
			}
			if y, e := task.Join(x[0], x[1], []int{0}); y.States != 0 || len(y.Steps) != 0 || e != api.ErrSystem {
				t.Errorf("Join(%v): %v, %d", x, y, e)
			}
		}
	}
	for _, s := range []task.System{system(1), system(64), full(), {States: 64, Steps: full().Steps[:499]}, system(64, 63, 9, 63), system(64, 0, 0, 0)} {
		if e := task.Check(within(s)); e != api.OK {
			t.Errorf("Check(%v): %d", s, e)
		}
	}
}
