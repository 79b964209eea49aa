package word

import (
	"math/rand"
	"reflect"
	"testing"

	"minikin/api"
)

// anyMachine returns a random least machine, with letters that exchange the states or do not.
func anyMachine(r *rand.Rand, states, letters int, good float64) machine {
	a := Auto{Letters: letters}
	for range states {
		a.Next = append(a.Next, make([]int, letters))
		a.Good = append(a.Good, r.Float64() < good)
	}
	for x := range letters {
		turn, order := r.Intn(2), r.Perm(states)
		for i := range states {
			a.Next[i][x] = []int{order[i], r.Intn(states)}[turn]
		}
	}
	return least(a)
}

// anyWeb returns a random web, with some states without steps.
func anyWeb(r *rand.Rand, states, letters int) web {
	n := web{letters: letters, start: one(r.Intn(states)), good: one(r.Intn(states))}
	for range states {
		row := [4]set{}
		for x := range letters {
			for range r.Intn(3) {
				row[x] = row[x].with(one(r.Intn(states)))
			}
		}
		n.next = append(n.next, row)
	}
	return n
}

// listed returns the machine of all sets of states, if they are not too many.
func listed(n web, most int) (machine, bool) {
	sets := from(n.start)
	m := machine{letters: n.letters}
	for i, s := range sets.all(n.letters, n.step) {
		if i == most {
			return m, false
		}
		m.good = append(m.good, s.meets(n.good))
	}
	m.next = sets.next
	return m, true
}

// TestLeastOfWebs compares with the machine of all sets.
func TestLeastOfWebs(t *testing.T) {
	r := rand.New(rand.NewSource(1))
	larges, done := 0, 0
	for i := range 3000 {
		letters, good := 1+r.Intn(4), []float64{0.05, 0.3, 0.7, 0.95}[r.Intn(4)]
		states := 1 + r.Intn(7)
		if i%100 == 0 {
			states = 20
		}
		a, b := anyMachine(r, states, letters, good), anyMachine(r, states, letters, good)
		for _, n := range []web{follow(a, b), repeat(a), anyWeb(r, states, letters)} {
			m, ok := listed(n, 20000)
			if !ok {
				continue
			}
			want, e := m.least()
			got, f := n.least()
			if e != f || !reflect.DeepEqual(got.auto(), want.auto()) {
				t.Fatalf("%v: %v, %d, want %v, %d", n, got, f, want, e)
			}
			done++
			if e == api.ErrLarge {
				larges++
			}
		}
	}
	if done < 8000 || larges < 50 {
		t.Errorf("%d of %d too large", larges, done)
	}
}

// TestDifferOfWebs compares the check from both ends with the pairs of a set and a state. It is what least needs where it does not try all endings.
func TestDifferOfWebs(t *testing.T) {
	r := rand.New(rand.NewSource(2))
	same := 0
	for range 3000 {
		letters := 1 + r.Intn(3)
		a, b := anyMachine(r, 1+r.Intn(5), letters, 0.6), anyMachine(r, 1+r.Intn(5), letters, 0.8)
		for _, n := range []web{follow(a, b), repeat(a), anyWeb(r, 1+r.Intn(6), letters)} {
			right, ok := listed(n, 3000)
			if !ok {
				continue
			}
			m := right
			if r.Intn(3) == 0 { // another language that is near
				m = anyMachine(r, 1+r.Intn(3), letters, 0.9)
			} else if s := r.Intn(len(m.good)); r.Intn(2) == 0 {
				m.good = append([]bool{}, m.good...)
				m.good[s] = !m.good[s]
			}
			m, e := m.least()
			if e != api.OK {
				continue
			}
			_, differ := right.part(0, 0, m)
			n = n.trimmed()
			for _, check := range []func() (string, bool){
				func() (string, bool) { return n.differ(m) },
				func() (string, bool) { return n.reversed().reversed().differ(m) },
				func() (string, bool) { return end(t, newCover(n, m.web()), n, m) },
			} {
				w, is := check()
				if is && right.good[right.run(0, w)] == m.good[m.run(0, w)] || is && !differ {
					t.Fatalf("%v, %v: %q, %v, want %v", n, m, w, is, differ)
				}
				if is != differ {
					t.Fatalf("%v, %v: %v, want %v", n, m, is, differ)
				}
			}
			if !differ {
				same++
			}
		}
	}
	if same < 1000 {
		t.Errorf("the same only %d times", same)
	}
}

// end takes all steps of a cover, after the check the other way round.
func end(t *testing.T, c *cover, n web, m machine) (string, bool) {
	if w, differ := n.more(m); differ {
		return w, true
	}
	for {
		if w, differ, done := c.step(); done {
			return w, differ
		}
	}
}

// TestImitate compares with the words that states accept, for machines, of which it knows all.
func TestImitate(t *testing.T) {
	r := rand.New(rand.NewSource(3))
	for range 300 {
		letters := 1 + r.Intn(3)
		a, b := anyMachine(r, 1+r.Intn(6), letters, 0.3), anyMachine(r, 1+r.Intn(6), letters, 0.6)
		for s, others := range imitate(a.web(), b.web()) {
			for u := range b.next {
				pairs, all := from([2]int{s, u}), true
				step := func(p [2]int, x int) [2]int { return [2]int{a.next[p[0]][x], b.next[p[1]][x]} }
				for _, p := range pairs.all(letters, step) {
					all = all && (!a.good[p[0]] || b.good[p[1]])
				}
				if others.has(u) != all {
					t.Fatalf("%v, %v: %d and %d: %v", a, b, s, u, others.has(u))
				}
			}
		}
	}
}

// TestHardWebs has webs with millions of sets and more, whose languages have few states.
func TestHardWebs(t *testing.T) {
	r := rand.New(rand.NewSource(4))
	few := 0
	for range 12 {
		a, b := Auto{Letters: 3}, Auto{Letters: 3}
		for _, c := range []*Auto{&a, &b} {
			for range 64 {
				c.Next = append(c.Next, []int{r.Intn(64), r.Intn(64), r.Intn(64)})
				c.Good = append(c.Good, r.Intn(10) > 0)
			}
		}
		n := follow(least(a), least(b))
		m, e := n.least()
		if _, ok := listed(n, 100000); !ok && e == api.OK {
			few++
		}
		for range 1000 {
			states, at := n.start, 0
			for range r.Intn(40) {
				x := r.Intn(3)
				states = n.step(states, x)
				if e == api.OK {
					at = m.next[at][x]
				}
				if e == api.OK && m.good[at] != states.meets(n.good) {
					t.Fatalf("%v: %v", n, m)
				}
			}
		}
	}
	if few < 3 {
		t.Errorf("only %d have few states", few)
	}
}

func TestSets(t *testing.T) {
	r := rand.New(rand.NewSource(5))
	for range 300 {
		a, b := set{}, set{}
		in := [2]map[int]bool{{}, {}}
		for range r.Intn(9) {
			s, u := r.Intn(128), 60+r.Intn(8)
			a, b = a.with(one(s)).with(one(u)), b.with(one(s+r.Intn(2)*(127-s)))
			in[0][s], in[0][u] = true, true
		}
		for s := range b.all() {
			in[1][s] = true
		}
		last, size, meets, within := -1, 0, false, true
		for s := range a.all() {
			if s <= last || !in[0][s] || !a.has(s) {
				t.Fatal("all")
			}
			last = s
			size++
			meets = meets || b.has(s)
			within = within && in[1][s]
		}
		if size != a.size() || size != len(in[0]) || a.meets(b) != meets || a.within(b) != within {
			t.Fatalf("%v, %v", a, b)
		}
		for s := range 128 {
			if a.only(b).has(s) != (a.has(s) && b.has(s)) || a.without(b).has(s) != (a.has(s) && !b.has(s)) || a.with(b).has(s) != (a.has(s) || b.has(s)) {
				t.Fatalf("%v, %v: %d", a, b, s)
			}
		}
	}
}
