package task_test

import (
	"fmt"
	"math"
	"math/rand"
	"slices"
	"testing"

	"minikin/api"
	"minikin/task"
)

// never is more bytes than a formula has.
const never = 1 << 40

// definable returns for each set of states, as bits, the bytes of the shortest formula of a depth that is true at just these, given those of the depth before it: this is the definition of formulas, gone through until nothing is new.
func definable(s task.System, last []int) []int {
	all := 1<<s.States - 1
	bytes := slices.Repeat([]int{never}, all+1)
	bytes[all] = 1
	changed := true
	improve := func(set, b int) {
		if b < bytes[set] {
			bytes[set], changed = b, true
		}
	}
	for set, b := range last {
		for label := range 10 {
			before := 0
			for _, x := range s.Steps {
				if x.Label == label && set>>x.To&1 == 1 {
					before |= 1 << x.From
				}
			}
			improve(before, b+3)
		}
	}
	for changed {
		changed = false
		for set, b := range bytes {
			if b == never {
				continue
			}
			improve(all&^set, b+1)
			for other, c := range bytes {
				improve(set&other, b+c+3)
			}
		}
	}
	return bytes
}

// parted returns the least depth of the formulas that part p from q, and the bytes of the shortest of that depth, or -1 and never if there is none.
func parted(rounds [][]int, p, q int) (depth, bytes int) {
	bytes = never
	for depth, round := range rounds {
		for set, b := range round {
			if set>>p&1 == 1 && set>>q&1 == 0 {
				bytes = min(bytes, b)
			}
		}
		if bytes < never {
			return depth, bytes
		}
	}
	return -1, never
}

// TestPart: of the formulas that part two states, one of the least depth comes, and there is one just if the states are not bisimilar (P5.2, P5.7).
func TestPart(t *testing.T) {
	r := rand.New(rand.NewSource(55))
	longer, all := 0, 0
	for i := range 2000 {
		n := 1 + r.Intn(7)
		labels := [][]int{{1}, {0, 9}, {0, 0, 0, 5}}[i%3]
		s := within(random(r, n, r.Intn(3*n), labels...))
		before := slices.Clone(around(s))
		var rounds [][]int
		for d := range n + 1 {
			var last []int
			if d > 0 {
				last = rounds[d-1]
			}
			rounds = append(rounds, definable(s, last))
		}
		classes, _ := task.Classes(s)
		for p := range n {
			for q := range n {
				depth, bytes := parted(rounds, p, q)
				f, ok, e := task.Part(s, p, q)
				if ok != (depth >= 0) || ok != (classes[p] != classes[q]) || e != api.OK || !ok && f != "" {
					t.Fatalf("Part(%v, %d, %d): %q, %v, %d", s, p, q, f, ok, e)
				}
				if ok {
					parts(t, s, p, q, f, depth)
					all++
					longer += min(1, len(f)-bytes)
				}
			}
		}
		if !slices.Equal(around(s), before) {
			t.Fatalf("Part: %v", s)
		}
	}
	// The shortest formulas are not promised, but what is far from them would be too long where they are long.
	if longer*1000 > all {
		t.Errorf("%d of %d formulas are not the shortest", longer, all)
	}
}

// parts checks that a formula parts p from q and has a depth.
func parts(t *testing.T, s task.System, p, q int, f string, depth int) {
	t.Helper()
	here, e := task.Holds(s, p, f)
	there, g := task.Holds(s, q, f)
	d, h := task.Depth(f)
	if !here || there || d != depth || len(f) > 100000 || e != api.OK || g != api.OK || h != api.OK {
		t.Fatalf("%v: %.100q parts %d from %d: %v, %v, depth %d, not %d: %d, %d, %d", s, f, p, q, here, there, d, depth, e, g, h)
	}
}

// TestPartLimits: with 64 states, the depth is that of the rounds in which classes become finer.
func TestPartLimits(t *testing.T) {
	r := rand.New(rand.NewSource(56))
	line := task.System{States: 64}
	for p := range 63 {
		line.Steps = append(line.Steps, task.Step{From: p, Label: 0, To: p + 1})
	}
	back := task.System{States: 64, Steps: append(slices.Clone(line.Steps), task.Step{From: 63, Label: 1, To: 63})}
	for len(back.Steps) < 500 {
		p := 1 + r.Intn(63)
		back.Steps = append(back.Steps, task.Step{From: p, Label: 0, To: r.Intn(p + 1)})
	}
	for _, s := range []task.System{line, back, full(), random(r, 64, 300, 1), random(r, 64, 200, 0, 1), random(r, 64, 500, 2, 3)} {
		classes := make([]int, 64)
		var rounds [][]int
		for range 64 {
			rounds = append(rounds, classes)
			classes = rounder(s, classes)
		}
		for range 60 {
			p, q := r.Intn(64), r.Intn(64)
			depth := slices.IndexFunc(rounds, func(c []int) bool { return c[p] != c[q] })
			f, ok, e := task.Part(s, p, q)
			if ok != (depth >= 0) || e != api.OK {
				t.Fatalf("Part(%v, %d, %d): %q, %v, %d", s, p, q, f, ok, e)
			}
			if ok {
				parts(t, s, p, q, f, depth)
			}
		}
	}
	f, ok, e := task.Part(line, 0, 1)
	if !ok || e != api.OK {
		t.Fatalf("line: %v, %d", ok, e)
	}
	parts(t, line, 0, 1, f, 63)
}

// rounder returns numbers of the states that differ just if a formula of one more depth tells them apart.
func rounder(s task.System, classes []int) []int {
	number := map[string]int{}
	out := make([]int, s.States)
	for p := range out {
		var seen []string
		for label := range 10 {
			for _, q := range ends(s, p, label) {
				seen = append(seen, fmt.Sprint(label, ":", classes[q]))
			}
		}
		slices.Sort(seen)
		key := fmt.Sprint(slices.Compact(seen))
		if _, ok := number[key]; !ok {
			number[key] = len(number)
		}
		out[p] = number[key]
	}
	return out
}

// tower returns a process with states p and q that have been raised by levels, from one that has a step and one that has none.
//
// A level 1 puts a step before both. A level k above 1 lets p go to a state x and both to states that differ from x by one of k labels, behind which q stands for p: only x parts p from q, by a formula for each of the k labels.
func tower(levels ...int) (s task.System, p, q int) {
	s = system(2, 0, 1, 0)
	p, q = 0, 1
	step := func(from, label, to int) { s.Steps = append(s.Steps, task.Step{From: from, Label: label, To: to}) }
	for _, k := range levels {
		a, b, x := s.States, s.States+1, s.States+2
		s.States += 2
		if k == 1 {
			step(a, 0, p)
			step(b, 0, q)
			p, q = a, b
			continue
		}
		s.States += 1 + k
		step(a, 0, x)
		for i := range k {
			y := x + 1 + i
			step(a, 0, y)
			step(b, 0, y)
			step(x, 1+i, p)
			for j := range k {
				step(y, 1+j, map[bool]int{true: q, false: p}[i == j])
			}
		}
		p, q = a, b
	}
	return s, p, q
}

// TestTowers: formulas of up to 100000 bytes come, and those that would be longer do not (P5.2).
func TestTowers(t *testing.T) {
	for _, x := range []struct {
		levels []int
		bytes  int
	}{
		{[]int{2}, 20}, {[]int{1, 1, 2}, 32},
		{slices.Repeat([]int{2}, 12), 65524},
		{slices.Repeat([]int{3}, 8), 85284}, {slices.Repeat([]int{3}, 9), 255870}, {slices.Repeat([]int{3}, 10), 767628},
		{slices.Repeat([]int{6}, 5), 87084}, {slices.Repeat([]int{6}, 6), 522540},
		{[]int{2, 2, 2, 4, 2, 2, 2, 1, 5, 1, 1, 1, 5}, 100000},
		{[]int{2, 2, 2, 2, 1, 1, 2, 3, 4, 2, 4, 2, 1}, 99999},
		{[]int{2, 2, 2, 2, 2, 1, 7, 4, 1, 7, 1}, 99998},
	} {
		s, p, q := tower(x.levels...)
		depth := 1
		for _, k := range x.levels {
			depth += min(2, k)
		}
		for _, end := range [][2]int{{p, q}, {q, p}} {
			bytes := x.bytes
			if end[0] == q {
				bytes++ // for it says that what the other one says is not
			}
			f, ok, e := task.Part(s, end[0], end[1])
			if bytes > 100000 {
				if f != "" || ok || e != api.ErrWide {
					t.Errorf("%v: %d bytes, %v, %d", x.levels, len(f), ok, e)
				}
				continue
			}
			if len(f) != bytes || !ok || e != api.OK {
				t.Errorf("%v: %d bytes, %v, %d", x.levels, len(f), ok, e)
				continue
			}
			parts(t, s, end[0], end[1], f, depth)
		}
	}
}

func TestPartStates(t *testing.T) {
	for _, p := range []int{-1, 9, 63, 64, math.MinInt, math.MaxInt} {
		for _, x := range [][2]int{{p, 0}, {0, p}, {p, p}} {
			if f, ok, e := task.Part(forks, x[0], x[1]); f != "" || ok || e != api.ErrArg {
				t.Errorf("Part(%d, %d): %q, %v, %d", x[0], x[1], f, ok, e)
			}
		}
	}
	for _, x := range []struct {
		s    task.System
		p, q int
		want string
	}{
		{system(2, 0, 0, 0), 0, 1, "<0>T"}, {system(2, 0, 0, 0), 1, 0, "!<0>T"}, {system(2, 0, 0, 1, 0, 9, 1), 1, 0, "!<0>T"}, {system(3, 0, 7, 1, 1, 7, 2), 1, 0, "!<7><7>T"},
	} {
		if f, ok, e := task.Part(x.s, x.p, x.q); len(f) != len(x.want) || !ok || e != api.OK {
			t.Errorf("Part(%v, %d, %d): %q, %v, %d", x.s, x.p, x.q, f, ok, e)
		}
	}
	f, ok, e := task.Part(forks, 0, 4)
	if !ok || e != api.OK {
		t.Fatalf("Part: %v, %d", ok, e)
	}
	parts(t, forks, 0, 4, f, 2)
	for p := range 9 {
		if f, ok, e := task.Part(forks, p, p); f != "" || ok || e != api.OK {
			t.Errorf("Part(%d, %d): %q, %v, %d", p, p, f, ok, e)
		}
	}
}
