package word

import (
	"slices"
)

// web is an automaton in which a letter leads from a state to any number of states. It accepts a word if one of the states to which the word leads is good.
type web struct {
	letters int
	next    [][4]set
	start   set
	good    set
}

// trimmed takes off the states that accept no word: they would only make sets of states different that accept the same words.
func (n web) trimmed() web {
	live := n.good
	for grown := true; grown; {
		grown = false
		for s, row := range n.next {
			for _, t := range row {
				if t.meets(live) && !live.has(s) {
					live = live.with(one(s))
					grown = true
				}
			}
		}
	}
	out := web{letters: n.letters, next: make([][4]set, len(n.next)), start: n.start.only(live), good: n.good}
	for s, row := range n.next {
		for x, t := range row {
			out.next[s][x] = t.only(live)
		}
	}
	return out
}

// step returns the states to which a letter leads from those of a set.
func (n web) step(from set, x int) set {
	out := set{}
	for s := range from.all() {
		out = out.with(n.next[s][x])
	}
	return out
}

// before returns the states from which a letter leads to one of a set.
func (n web) before(to set, x int) set {
	out := set{}
	for s, row := range n.next {
		if row[x].meets(to) {
			out = out.with(one(s))
		}
	}
	return out
}

// more returns a word that n accepts and m does not.
func (n web) more(m machine) (string, bool) {
	pairs := newSearch[[2]int]()
	for s := range n.start.all() {
		pairs.find([2]int{s, 0}, none, 0)
	}
	for i := 0; i < len(pairs.states); i++ {
		p := pairs.states[i]
		if n.good.has(p[0]) && !m.good[p[1]] {
			return pairs.word(i), true
		}
		for x := range n.letters {
			for s := range n.next[p[0]][x].all() {
				pairs.find([2]int{s, m.next[p[1]][x]}, i, x)
			}
		}
	}
	return "", false
}

// reversed returns a web that accepts the words of n with their letters in the opposite order.
func (n web) reversed() web {
	out := web{letters: n.letters, next: make([][4]set, len(n.next)), start: n.good, good: n.start}
	for s, row := range n.next {
		for x, to := range row {
			for t := range to.all() {
				out.next[t][x] = out.next[t][x].with(one(s))
			}
		}
	}
	return out.trimmed()
}

// differ returns a word that just one of n and m accepts.
func (n web) differ(m machine) (string, bool) {
	if w, differ := n.more(m); differ {
		return w, true
	}
	return n.less(m.web())
}

// less returns a word that m accepts and n does not. It looks for it from both ends at once, as from one of them there may be much fewer sets than from the other.
func (n web) less(m web) (string, bool) {
	ahead, back := newCover(n, m), newCover(n.reversed(), m.reversed())
	for {
		if ahead.work <= back.work {
			if w, differ, done := ahead.step(); done {
				return w, differ
			}
			continue
		}
		if w, differ, done := back.step(); done {
			letters := []byte(w)
			slices.Reverse(letters)
			return string(letters), differ
		}
	}
}
