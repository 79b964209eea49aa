package word_test

import (
	"math"
	"math/rand"
	"reflect"
	"slices"
	"strings"
	"testing"

	"minikin/api"
	"minikin/word"
)

// teacher replies to a learner by an automaton and checks P2.7 as it goes.
type teacher struct {
	a       word.Auto
	wrong   func(guess word.Auto) (string, bool) // a word in just one of a and the guess
	asked   map[string]bool
	guesses int
	longest int
}

// teach goes on to the end.
func (c *teacher) teach(t *testing.T) {
	t.Helper()
	l, e := word.New(c.a.Letters)
	if e != api.OK {
		t.Fatalf("New: %d", e)
	}
	least, _ := word.Least(c.a)
	c.asked = map[string]bool{}
	n, k, states := len(least.Next), c.a.Letters, 0
	for {
		kind, w, guess := l.Ask()
		switch kind {
		case word.Member:
			if c.asked[w] || len(w) > 5000 || guess.Letters != 0 || guess.Next != nil || guess.Good != nil {
				t.Fatalf("%v: %.20q of %d letters, asked before: %v", c.a, w, len(w), c.asked[w])
			}
			c.asked[w] = true
			if most := (k+1)*n*n + n*(c.longest+12); len(c.asked) > most {
				t.Fatalf("%v: more than %d words", c.a, most)
			}
			if e := l.Tell(accepts(c.a, w)); e != api.OK {
				t.Fatalf("Tell: %d", e)
			}
		case word.Guess:
			if again, _ := word.Least(guess); w != "" || len(guess.Next) <= states || len(guess.Next) > n || !reflect.DeepEqual(again, guess) {
				t.Fatalf("%v: guess %v after %d states", c.a, guess, states)
			}
			states = len(guess.Next)
			c.guesses++
			w, differ := c.wrong(guess)
			if !differ {
				if e := l.Right(); e != api.OK {
					t.Fatalf("Right: %d", e)
				}
				continue
			}
			c.longest = max(c.longest, len(w))
			if e := l.Wrong(w); e != api.OK {
				t.Fatalf("Wrong: %d", e)
			}
		default:
			if kind != word.Finished || w != "" || !reflect.DeepEqual(guess, least) {
				t.Fatalf("%v: %d, %v", c.a, kind, guess)
			}
			return
		}
	}
}

// first returns Differ's words.
func (c *teacher) first(guess word.Auto) (string, bool) {
	w, differ, _ := word.Differ(c.a, guess)
	return w, differ
}

// far returns words of n letters, or of as many as there can be, which are random but for being in just one of a and the guess.
func (c *teacher) far(r *rand.Rand, n int) func(guess word.Auto) (string, bool) {
	return func(guess word.Auto) (string, bool) {
		count := len(guess.Next)
		can := [][]bool{make([]bool, len(c.a.Next)*count)} // by lengths, for each pair of states
		for i := range can[0] {
			can[0][i] = c.a.Good[i/count] != guess.Good[i%count]
		}
		for len(can) <= n {
			last, next := can[len(can)-1], make([]bool, len(can[0]))
			for i := range next {
				for x := range c.a.Letters {
					next[i] = next[i] || last[c.a.Next[i/count][x]*count+guess.Next[i%count][x]]
				}
			}
			can = append(can, next)
		}
		left := n
		for left >= 0 && !can[left][0] {
			left--
		}
		if left < 0 {
			return c.first(guess)
		}
		out, at := []byte{}, 0
		for ; left > 0; left-- {
			x := r.Intn(c.a.Letters)
			to := func() int { return c.a.Next[at/count][x]*count + guess.Next[at%count][x] }
			for !can[left-1][to()] {
				x = (x + 1) % c.a.Letters
			}
			at = to()
			out = append(out, 'a'+byte(x))
		}
		return string(out), true
	}
}

// lettersOf returns an automaton that decides by the first letters: a tree of states whose leaves accept all words or none, or lead back.
func lettersOf(r *rand.Rand, states, letters int) word.Auto {
	a := word.Auto{Letters: letters}
	for i := range states {
		row := make([]int, letters)
		for x := range row {
			switch to := i*letters + x + 1; {
			case i >= states-2:
				row[x] = i
			case to < states-2:
				row[x] = to
			case r.Intn(4) == 0:
				row[x] = r.Intn(states)
			default:
				row[x] = states - 1 - r.Intn(2)
			}
		}
		a.Next = append(a.Next, row)
		a.Good = append(a.Good, i == states-1 || i < states-2 && r.Intn(8) == 0)
	}
	return a
}

// lineOf returns an automaton that goes on by some letter and else stays or goes back; at the end it accepts all words or none.
func lineOf(r *rand.Rand, states, letters int) word.Auto {
	a := word.Auto{Letters: letters}
	back := r.Intn(2)
	for i := range states {
		row := slices.Repeat([]int{i}, letters)
		for x := range row {
			if i < states-2 && back == 0 {
				row[x] = 0
			}
			if i < states-2 && r.Intn(5) == 0 {
				row[x] = r.Intn(states - 2)
			}
		}
		if i < states-3 {
			row[r.Intn(letters)] = i + 1
		}
		if i == states-3 {
			row[r.Intn(letters)] = states - 1
			row[r.Intn(letters)] = states - 2
		}
		a.Next = append(a.Next, row)
		a.Good = append(a.Good, i == states-1)
	}
	return a
}

// exchanging returns an automaton whose letters exchange the states.
func exchanging(r *rand.Rand, states, letters int) word.Auto {
	a := random(r, states, letters)
	for x := range letters {
		for i, to := range r.Perm(states) {
			a.Next[i][x] = to
		}
	}
	return a
}

func TestLearner(t *testing.T) {
	r := rand.New(rand.NewSource(7))
	families := []func(r *rand.Rand, states, letters int) word.Auto{random, lettersOf, lineOf, exchanging}
	for i := range 240 {
		letters := 1 + r.Intn(4)
		c := &teacher{a: families[i%4](r, 4+r.Intn(61), letters)}
		c.wrong = c.first
		c.teach(t)
		if n, _ := word.Least(c.a); c.guesses > len(n.Next) {
			t.Errorf("%v: %d guesses", c.a, c.guesses)
		}
	}
}

func TestLearnerOfLongWords(t *testing.T) {
	r := rand.New(rand.NewSource(8))
	families := []func(r *rand.Rand, states, letters int) word.Auto{random, lettersOf, lineOf, exchanging}
	for i := range 60 {
		letters := 1 + r.Intn(4)
		c := &teacher{a: families[i%4](r, 4+r.Intn(61), letters)}
		c.wrong = c.far(r, []int{5000, r.Intn(5001), r.Intn(100)}[i/4%3])
		c.teach(t)
	}
	// The letter number n decides, and the longest words there are say nothing more about it.
	for _, n := range []int{1, 3, 20, 62} {
		c := &teacher{a: nth(n)}
		c.wrong = c.far(r, 5000)
		c.teach(t)
		c.wrong = func(guess word.Auto) (string, bool) {
			w, differ := c.first(guess)
			return w + strings.Repeat("a", 5000-len(w)), differ
		}
		c.teach(t)
	}
}

func TestLearnerExamples(t *testing.T) {
	for _, a := range []word.Auto{even, ends, none, all, cycle(1), cycle(64), lengths(4, 62), nth(62), lengths(4, 0)} {
		c := &teacher{a: a}
		c.wrong = c.first
		c.teach(t)
	}
}

func TestLearnerErrors(t *testing.T) {
	for _, k := range []int{0, -1, 5, math.MaxInt, math.MinInt} {
		if l, e := word.New(k); l != nil || e != api.ErrArg {
			t.Errorf("New(%d): %v, %d", k, l, e)
		}
	}
	var l *word.Learner
	if kind, w, a := l.Ask(); kind != 0 || w != "" || !reflect.DeepEqual(a, word.Auto{}) {
		t.Errorf("Ask: %d, %q, %v", kind, w, a)
	}
	for _, e := range []api.Errno{l.Tell(true), l.Right(), l.Wrong("a"), l.Wrong("x")} {
		if e != api.ErrNil {
			t.Errorf("nil: %d", e)
		}
	}
	l, e := word.New(2)
	if e != api.OK {
		t.Fatalf("New: %d", e)
	}
	is := func(want int) {
		t.Helper()
		kind, w, a := l.Ask()
		again, v, b := l.Ask()
		if kind != want || again != kind || v != w || !reflect.DeepEqual(a, b) {
			t.Fatalf("Ask: %d, %q, %v, then %d, %q, %v, want %d", kind, w, a, again, v, b, want)
		}
	}
	not := func(want api.Errno, all ...api.Errno) {
		t.Helper()
		for i, e := range all {
			if e != want {
				t.Errorf("call %d: %d, want %d", i, e, want)
			}
		}
	}
	long := strings.Repeat("a", 5001)
	for {
		kind, w, _ := l.Ask()
		if kind != word.Member {
			break
		}
		is(word.Member)
		not(api.ErrState, l.Right(), l.Wrong("a"), l.Wrong("x"), l.Wrong(long))
		is(word.Member)
		not(api.OK, l.Tell(accepts(ends, w)))
	}
	is(word.Guess)
	not(api.ErrState, l.Tell(true), l.Tell(false))
	not(api.ErrArg, l.Wrong("c"), l.Wrong("ab "), l.Wrong(long+"c"), l.Wrong("\xff"))
	not(api.ErrLong, l.Wrong(long))
	is(word.Guess)
	_, _, guess := l.Ask()
	kept := copied(guess)
	guess.Good[0] = !guess.Good[0]
	guess.Next[0][0] = -7
	if _, _, a := l.Ask(); !reflect.DeepEqual(a, kept) {
		t.Errorf("Ask: %v, want %v", a, kept)
	}
	not(api.OK, l.Wrong("ab"))
	for kind, w, _ := l.Ask(); kind == word.Member; kind, w, _ = l.Ask() {
		not(api.OK, l.Tell(accepts(ends, w)))
	}
	is(word.Guess)
	not(api.OK, l.Right())
	is(word.Finished)
	not(api.ErrState, l.Right(), l.Wrong("a"), l.Wrong("x"), l.Tell(true))
	is(word.Finished)
	if _, _, a := l.Ask(); !reflect.DeepEqual(a, ends) {
		t.Errorf("Ask: %v", a)
	}
}

// TestLearnersAlike has two learners that are asked in turn: neither minds the other one.
func TestLearnersAlike(t *testing.T) {
	r := rand.New(rand.NewSource(9))
	a := random(r, 20, 3)
	l, _ := word.New(3)
	m, _ := word.New(3)
	for {
		kind, w, guess := l.Ask()
		other, v, second := m.Ask()
		if kind != other || w != v || !reflect.DeepEqual(guess, second) {
			t.Fatalf("%d, %q and %d, %q", kind, w, other, v)
		}
		switch kind {
		case word.Member:
			l.Tell(accepts(a, w))
			m.Tell(accepts(a, w))
		case word.Guess:
			w, differ, _ := word.Differ(a, guess)
			if !differ {
				return
			}
			l.Wrong(w)
			m.Wrong(w)
		}
	}
}

// TestLearnerOfNoLanguage only asks for an end, and for questions that are such.
func TestLearnerOfNoLanguage(t *testing.T) {
	r := rand.New(rand.NewSource(10))
	for i := range 40 {
		letters := 1 + i%4
		often := r.Float64()
		l, _ := word.New(letters)
		for range 4000 {
			kind, w, guess := l.Ask()
			switch kind {
			case word.Member:
				if e := l.Tell(r.Float64() < often); e != api.OK || len(w) > 5000 {
					t.Fatalf("Tell: %d", e)
				}
			case word.Guess:
				w := make([]byte, []int{r.Intn(4), r.Intn(60), 5000 - r.Intn(9)}[i%3])
				for j := range w {
					w[j] = 'a' + byte(r.Intn(letters))
				}
				if e := l.Wrong(string(w)); e != api.OK || word.Check(guess) != api.OK {
					t.Fatalf("Wrong: %d", e)
				}
			default:
				t.Fatalf("Ask: %d", kind)
			}
		}
	}
}

// TestLearnerOfLargeLanguage replies by a language whose least automaton has 100 states.
func TestLearnerOfLargeLanguage(t *testing.T) {
	l, _ := word.New(1)
	for range 1000 {
		kind, w, guess := l.Ask()
		if kind == word.Member {
			l.Tell(len(w)%100 == 0)
			continue
		}
		if e := word.Check(guess); kind != word.Guess || e != api.OK {
			t.Fatalf("Ask: %d, %d", kind, e)
		}
		for n := range 5001 {
			if w := strings.Repeat("a", n); accepts(guess, w) != (n%100 == 0) {
				l.Wrong(w)
				break
			}
		}
	}
}
