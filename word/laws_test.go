package word_test

import (
	"math/rand"
	"reflect"
	"strings"
	"testing"

	"minikin/api"
	"minikin/word"
)

// split reports whether w is a word of a's followed by one of b's.
func split(a, b word.Auto, w string) bool {
	for i := range len(w) + 1 {
		if accepts(a, w[:i]) && accepts(b, w[i:]) {
			return true
		}
	}
	return false
}

// pieces reports whether w is words of a's one after the other.
func pieces(a word.Auto, w string) bool {
	can := make([]bool, len(w)+1)
	can[0] = true
	for j := range len(w) + 1 {
		for i := range j {
			can[j] = can[j] || can[i] && accepts(a, w[i:j])
		}
	}
	return can[len(w)]
}

func backward(w string) string {
	out := []byte{}
	for i := range len(w) {
		out = append(out, w[len(w)-1-i])
	}
	return string(out)
}

func TestOperations(t *testing.T) {
	r := rand.New(rand.NewSource(3))
	large := 0
	for range 400 {
		letters := 1 + r.Intn(3)
		a, b := random(r, 1+r.Intn(4), letters), random(r, 1+r.Intn(4), letters)
		keptA, keptB := copied(a), copied(b)
		words := upTo(letters, 6)
		for _, c := range []struct {
			name string
			auto func() (word.Auto, api.Errno)
			in   func(w string) bool
		}{
			{"Not", func() (word.Auto, api.Errno) { return word.Not(a) }, func(w string) bool { return !accepts(a, w) }},
			{"Both", func() (word.Auto, api.Errno) { return word.Both(a, b) }, func(w string) bool { return accepts(a, w) && accepts(b, w) }},
			{"Either", func() (word.Auto, api.Errno) { return word.Either(a, b) }, func(w string) bool { return accepts(a, w) || accepts(b, w) }},
			{"Follow", func() (word.Auto, api.Errno) { return word.Follow(a, b) }, func(w string) bool { return split(a, b, w) }},
			{"Repeat", func() (word.Auto, api.Errno) { return word.Repeat(a) }, func(w string) bool { return pieces(a, w) }},
			{"Reverse", func() (word.Auto, api.Errno) { return word.Reverse(a) }, func(w string) bool { return accepts(a, backward(w)) }},
		} {
			got, e := c.auto()
			if e == api.ErrLarge && c.name == "Follow" && got.Letters == 0 && len(got.Next)+len(got.Good) == 0 {
				large++
				continue
			}
			if least, f := word.Least(got); e != api.OK || f != api.OK || !reflect.DeepEqual(least, got) {
				t.Fatalf("%s(%v, %v): %v, %d", c.name, a, b, got, e)
			}
			for _, w := range words {
				if accepts(got, w) != c.in(w) {
					t.Fatalf("%s(%v, %v): %v, not so for %q", c.name, a, b, got, w)
				}
			}
		}
		if !reflect.DeepEqual(a, keptA) || !reflect.DeepEqual(b, keptB) {
			t.Fatal("an argument was changed")
		}
	}
	if large > 10 {
		t.Errorf("%d too large", large)
	}
}

// has checks that a call returned so many states, or ErrLarge for 0.
func has(t *testing.T, what string, states int, a word.Auto, e api.Errno) {
	t.Helper()
	want := api.OK
	if states == 0 {
		want = api.ErrLarge
	}
	if len(a.Next) != states || len(a.Good) != states || e != want || states == 0 && a.Letters != 0 {
		t.Errorf("%s: %d states, %d, want %d", what, len(a.Next), e, states)
	}
}

func TestJustStates(t *testing.T) {
	a, e := word.Both(cycle(64), cycle(32))
	has(t, "Both", 64, a, e)
	a, e = word.Both(cycle(7), cycle(9))
	has(t, "Both", 63, a, e)
	a, e = word.Both(cycle(13), cycle(5))
	has(t, "Both", 0, a, e)
	a, e = word.Both(cycle(64), cycle(63))
	has(t, "Both", 0, a, e)
	a, e = word.Either(cycle(7), cycle(9))
	has(t, "Either", 63, a, e)
	a, e = word.Either(cycle(64), cycle(16))
	has(t, "Either", 16, a, e)
	a, e = word.Either(cycle(13), cycle(5))
	has(t, "Either", 0, a, e)
	a, e = word.Not(cycle(64))
	has(t, "Not", 64, a, e)
	a, e = word.Follow(lengths(1, 31), lengths(1, 31))
	has(t, "Follow", 64, a, e)
	a, e = word.Follow(lengths(1, 31), lengths(1, 32))
	has(t, "Follow", 0, a, e)
	a, e = word.Follow(lengths(4, 62), lengths(4, 62))
	has(t, "Follow", 0, a, e)
	a, e = word.Repeat(lengths(1, 4, 33, 35))
	has(t, "Repeat", 64, a, e)
	a, e = word.Repeat(lengths(1, 5, 17))
	has(t, "Repeat", 0, a, e)
	a, e = word.Reverse(nth(6))
	has(t, "Reverse", 64, a, e)
	b, e := word.Reverse(a)
	if has(t, "Reverse", 8, b, e); !reflect.DeepEqual(b, nth(6)) {
		t.Errorf("Reverse: %v", b)
	}
	a, e = word.Reverse(nth(7))
	has(t, "Reverse", 0, a, e)
	a, e = word.Reverse(nth(62))
	has(t, "Reverse", 0, a, e)
}

// from returns the words of two letters that begin with a and have at least n letters, or just n.
func begins(n int, just bool) word.Auto {
	a := lengths(2, n)
	last, dead := n+1, n+1
	if !just {
		last = n
		a.Good[n+1] = false
	}
	a.Next[n] = []int{last, last}
	a.Next[0] = []int{1, dead}
	return a
}

// TestOnTheWay has languages with few states, where the sets of states on the way are 2^40 or more, and those with more states than they could be counted.
func TestOnTheWay(t *testing.T) {
	a, e := word.Follow(all, begins(40, false))
	has(t, "Follow", 41, a, e)
	for _, w := range []string{strings.Repeat("b", 50) + "a" + strings.Repeat("b", 39), "a" + strings.Repeat("ba", 30)} {
		if is, e := word.Accepts(a, w); !is || e != api.OK {
			t.Errorf("Follow: not %q", w)
		}
	}
	if is, e := word.Accepts(a, strings.Repeat("b", 50)+"a"+strings.Repeat("b", 38)); is || e != api.OK {
		t.Error("Follow")
	}
	a, e = word.Follow(all, begins(62, true))
	has(t, "Follow", 0, a, e)
	a, e = word.Follow(all, begins(5, true))
	has(t, "Follow", 32, a, e)
	a, e = word.Follow(all, begins(6, true))
	has(t, "Follow", 64, a, e)
	a, e = word.Follow(all, begins(7, true))
	has(t, "Follow", 0, a, e)
	// Words of b, or of a and at least 39 letters: after some a, all lengths from 40 on.
	or, e := word.Either(begins(40, false), word.Auto{Letters: 2, Next: [][]int{{2, 1}, {2, 2}, {2, 2}}, Good: []bool{false, true, false}})
	if e != api.OK {
		t.Fatalf("Either: %d", e)
	}
	a, e = word.Repeat(or)
	has(t, "Repeat", 41, a, e)
	just, e := word.Either(begins(40, true), word.Auto{Letters: 2, Next: [][]int{{1, 1}, {2, 2}, {2, 2}}, Good: []bool{false, true, false}})
	if e != api.OK {
		t.Fatalf("Either: %d", e)
	}
	a, e = word.Repeat(just)
	has(t, "Repeat", 1, a, e)
	a, e = word.Repeat(begins(40, true))
	has(t, "Repeat", 41, a, e)
}

func TestEmptyAndAll(t *testing.T) {
	empty := lengths(2, 0)
	for _, c := range []struct {
		name string
		want word.Auto
		auto func() (word.Auto, api.Errno)
	}{
		{"Not none", all, func() (word.Auto, api.Errno) { return word.Not(none) }},
		{"Not all", none, func() (word.Auto, api.Errno) { return word.Not(all) }},
		{"Both", none, func() (word.Auto, api.Errno) { return word.Both(ends, none) }},
		{"Either", all, func() (word.Auto, api.Errno) { return word.Either(all, ends) }},
		{"Follow none", none, func() (word.Auto, api.Errno) { return word.Follow(none, all) }},
		{"Follow by none", none, func() (word.Auto, api.Errno) { return word.Follow(all, none) }},
		{"Follow the empty word", ends, func() (word.Auto, api.Errno) { return word.Follow(empty, ends) }},
		{"Follow by the empty word", ends, func() (word.Auto, api.Errno) { return word.Follow(ends, empty) }},
		{"Follow all", all, func() (word.Auto, api.Errno) { return word.Follow(all, all) }},
		{"Repeat none", empty, func() (word.Auto, api.Errno) { return word.Repeat(none) }},
		{"Repeat the empty word", empty, func() (word.Auto, api.Errno) { return word.Repeat(empty) }},
		{"Repeat all", all, func() (word.Auto, api.Errno) { return word.Repeat(all) }},
		{"Reverse none", none, func() (word.Auto, api.Errno) { return word.Reverse(none) }},
		{"Reverse all", all, func() (word.Auto, api.Errno) { return word.Reverse(all) }},
		{"Reverse the empty word", empty, func() (word.Auto, api.Errno) { return word.Reverse(empty) }},
	} {
		if got, e := c.auto(); !reflect.DeepEqual(got, c.want) || e != api.OK {
			t.Errorf("%s: %v, %d", c.name, got, e)
		}
	}
}

// TestLaws checks the consequences P2.8 to P2.10.
func TestLaws(t *testing.T) {
	r := rand.New(rand.NewSource(4))
	must := func(a word.Auto, e api.Errno) word.Auto {
		t.Helper()
		if e != api.OK {
			t.Fatalf("%d", e)
		}
		return a
	}
	same := func(what string, a, b word.Auto) {
		t.Helper()
		w, differ, e := word.Differ(a, b)
		if differ || e != api.OK || !reflect.DeepEqual(must(word.Least(a)), must(word.Least(b))) {
			t.Fatalf("%s: %q, %d", what, w, e)
		}
	}
	for range 200 {
		letters := 1 + r.Intn(2)
		a, b, c := random(r, 1+r.Intn(3), letters), random(r, 1+r.Intn(3), letters), random(r, 1+r.Intn(3), letters)
		none := must(word.Both(a, must(word.Not(a))))
		same("Not Not", a, must(word.Not(must(word.Not(a)))))
		same("Both and itself", a, must(word.Both(a, a)))
		same("Either and itself", a, must(word.Either(a, a)))
		same("Both exchanged", must(word.Both(a, b)), must(word.Both(b, a)))
		same("Either exchanged", must(word.Either(a, b)), must(word.Either(b, a)))
		same("Both of Either", must(word.Both(a, must(word.Either(b, c)))), must(word.Either(must(word.Both(a, b)), must(word.Both(a, c)))))
		same("Either of Both", must(word.Either(a, must(word.Both(b, c)))), must(word.Both(must(word.Either(a, b)), must(word.Either(a, c)))))
		same("absorbed", a, must(word.Both(a, must(word.Either(a, b)))))
		same("de Morgan", must(word.Not(must(word.Both(a, b)))), must(word.Either(must(word.Not(a)), must(word.Not(b)))))
		same("none", a, must(word.Either(a, none)))
		same("Reverse", a, must(word.Reverse(must(word.Reverse(a)))))
		same("Repeat", must(word.Repeat(a)), must(word.Repeat(must(word.Repeat(a)))))
		same("Follow and Reverse", must(word.Reverse(must(word.Follow(a, b)))), must(word.Follow(must(word.Reverse(b)), must(word.Reverse(a)))))
		same("Repeat and Reverse", must(word.Reverse(must(word.Repeat(a)))), must(word.Repeat(must(word.Reverse(a)))))
		if _, differ, _ := word.Differ(a, b); differ == reflect.DeepEqual(must(word.Least(a)), must(word.Least(b))) {
			t.Fatalf("Differ and Least: %v, %v", a, b)
		}
	}
}

// TestMyhillNerode checks the consequence P2.9.
func TestMyhillNerode(t *testing.T) {
	r := rand.New(rand.NewSource(5))
	for range 50 {
		a := random(r, 1+r.Intn(12), 1+r.Intn(4))
		least, _ := word.Least(a)
		classes, e := word.Classes(a)
		if len(classes) != len(least.Next) || e != api.OK {
			t.Fatalf("Classes(%v): %q, %d", a, classes, e)
		}
		for i, u := range classes {
			for j, v := range classes {
				w, ok, e := word.Part(a, u, v)
				if ok != (i != j) || ok && accepts(a, u+w) == accepts(a, v+w) || e != api.OK {
					t.Fatalf("Part(%v, %q, %q): %q, %v, %d", a, u, v, w, ok, e)
				}
			}
		}
	}
}
