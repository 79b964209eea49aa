package word_test

import (
	"fmt"
	"math"
	"math/rand"
	"slices"
	"strings"
	"testing"

	"minikin/api"
	"minikin/word"
)

// oneGood returns an automaton with the state 0 good.
func oneGood(next [][]int) word.Auto {
	a := word.Auto{Letters: len(next[0]), Next: next, Good: make([]bool, len(next))}
	a.Good[0] = true
	return a
}

// maps returns the monoid by its definition: the maps of the classes of words, where w maps u's class to that of u w.
func maps(a word.Auto) map[string]string {
	least, _ := word.Least(a)
	of := func(w string) string {
		out := []int{}
		for s := range least.Next {
			for _, c := range w {
				s = least.Next[s][c-'a']
			}
			out = append(out, s)
		}
		return fmt.Sprint(out)
	}
	found := map[string]string{of(""): ""}
	words := []string{""}
	for i := 0; i < len(words); i++ {
		for x := range a.Letters {
			w := words[i] + string(rune('a'+x))
			if _, ok := found[of(w)]; !ok {
				found[of(w)] = w
				words = append(words, w)
			}
		}
	}
	return found
}

// isGroup checks a group witness by the definition.
func isGroup(a word.Auto, x string, p int) bool {
	least, _ := word.Least(a)
	for s := range least.Next {
		at, seen := s, []int{}
		for range p {
			for _, c := range x {
				at = least.Next[at][c-'a']
			}
			if slices.Contains(seen, at) {
				break
			}
			seen = append(seen, at)
		}
		if p >= 2 && len(seen) == p && at == s {
			return true
		}
	}
	return false
}

func TestMonoid(t *testing.T) {
	r := rand.New(rand.NewSource(6))
	groups := 0
	for range 300 {
		a := random(r, 1+r.Intn(5), 1+r.Intn(2))
		all := maps(a)
		if n, e := word.Monoid(a); n != len(all) || e != api.OK {
			t.Fatalf("Monoid(%v): %d, %d, want %d", a, n, e, len(all))
		}
		any := false
		for _, x := range all {
			for p := 0; p < 7; p++ {
				want := isGroup(a, x, p)
				any = any || want
				if is := word.IsGroup(a, x, p); is != want {
					t.Fatalf("IsGroup(%v, %q, %d): %v", a, x, p, is)
				}
			}
		}
		x, p, ok, e := word.Group(a)
		if ok != any || e != api.OK || ok && (!isGroup(a, x, p) || !word.IsGroup(a, x, p)) || !ok && (x != "" || p != 0) {
			t.Fatalf("Group(%v): %q, %d, %v, %d", a, x, p, ok, e)
		}
		if any {
			groups++
		}
	}
	if groups < 30 || groups > 270 {
		t.Errorf("%d groups", groups)
	}
}

func TestMonoidExamples(t *testing.T) {
	symmetric := func(n int) word.Auto { // a shift and an exchange make all n! maps
		next := [][]int{}
		for i := range n {
			next = append(next, []int{(i + 1) % n, i})
		}
		next[0][1], next[1][1] = 1, 0
		return oneGood(next)
	}
	five := symmetric(5)
	five.Letters = 3
	for i := range five.Next {
		five.Next[i] = append(five.Next[i], max(i, 1)) // with a merge: all 5^5 maps
	}
	for i, c := range []struct {
		a    word.Auto
		want int
	}{
		{even, 2}, {ends, 5}, {none, 1}, {all, 1}, {cycle(64), 64}, {lengths(1, 62), 64},
		{symmetric(6), 720}, {symmetric(7), 0}, {five, 3125}, {nth(11), 4095}, {nth(12), 0},
		{oneGood([][]int{{5, 4}, {2, 2}, {6, 4}, {4, 6}, {6, 1}, {1, 0}, {0, 3}}), 5000},
		{oneGood([][]int{{4, 1, 5}, {5, 0, 0}, {1, 2, 4}, {0, 0, 0}, {3, 4, 1}, {2, 5, 4}}), 0},
	} {
		want := api.OK
		if c.want == 0 {
			want = api.ErrLarge
		}
		n, e := word.Monoid(c.a)
		if n != c.want || e != want {
			t.Errorf("Monoid %d: %d, %d, want %d, %d", i, n, e, c.want, want)
		}
		x, p, ok, e := word.Group(c.a)
		if e != want || e != api.OK && (x != "" || p != 0 || ok) || len(x) > 5000 || ok && !isGroup(c.a, x, p) {
			t.Errorf("Group %d: %q, %d, %v, %d, want %d", i, x, p, ok, e, want)
		}
	}
	if l, _ := word.Least(oneGood([][]int{{4, 1, 5}, {5, 0, 0}, {1, 2, 4}, {0, 0, 0}, {3, 4, 1}, {2, 5, 4}})); len(l.Next) != 6 {
		t.Error("the monoid of 5001 elements is not of this automaton")
	}
}

func TestIsGroup(t *testing.T) {
	long := strings.Repeat("a", 4999)
	for _, c := range []struct {
		a    word.Auto
		x    string
		p    int
		want bool
	}{
		{even, "a", 2, true}, {even, "ab", 2, true}, {even, "aaa", 2, true}, {even, "b", 2, false}, {even, "aa", 2, false}, {even, "", 2, false},
		{even, "a", 1, false}, {even, "a", 0, false}, {even, "a", -2, false}, {even, "a", 4, false}, {even, "a", 3, false},
		{even, "b", 1, false}, {even, "", 1, false}, {even, "a", math.MaxInt, false}, {even, "a", math.MinInt, false},
		{even, "c", 2, false}, {even, "ac", 2, false}, {even, "A", 2, false},
		{even, long, 2, true}, {even, long + "b", 2, true}, {even, long + "bb", 2, false},
		{cycle(64), "a", 64, true}, {cycle(64), "aa", 32, true}, {cycle(64), "aaa", 64, true}, {cycle(64), "a", 63, false}, {cycle(64), "a", 65, false},
		{ends, "a", 2, false}, {ends, "ab", 2, false}, {ends, "ba", 2, false},
	} {
		if is := word.IsGroup(c.a, c.x, c.p); is != c.want {
			t.Errorf("IsGroup(%.9q, %d): %v", c.x, c.p, is)
		}
	}
	// The states that exchange under a are one state of the least automaton.
	double := word.Auto{Letters: 2, Next: [][]int{{1, 0}, {0, 1}}, Good: []bool{true, true}}
	if word.IsGroup(double, "a", 2) {
		t.Error("IsGroup")
	}
	if _, _, ok, e := word.Group(double); ok || e != api.OK {
		t.Errorf("Group: %v, %d", ok, e)
	}
}
