package word

import (
	"minikin/api"
)

// result returns the least automaton of what m accepts.
func result(m machine, e api.Errno) (Auto, api.Errno) {
	if e == api.OK {
		m, e = m.least()
	}
	if e != api.OK {
		return Auto{}, e
	}
	return m.auto(), api.OK
}

// Not returns the least automaton of the words that a does not accept.
func Not(a Auto) (Auto, api.Errno) {
	if e := Check(a); e != api.OK {
		return Auto{}, e
	}
	m := reached(a)
	for s, good := range m.good {
		m.good[s] = !good
	}
	return result(m, api.OK)
}

// Both returns the least automaton of the words that a and b accept.
func Both(a, b Auto) (Auto, api.Errno) {
	return product(a, b, func(inA, inB bool) bool { return inA && inB })
}

// Either returns the least automaton of the words that a or b accepts.
func Either(a, b Auto) (Auto, api.Errno) {
	return product(a, b, func(inA, inB bool) bool { return inA || inB })
}

// product returns the least automaton of the words that are good by whether they are in the languages of a and b.
func product(a, b Auto, good func(inA, inB bool) bool) (Auto, api.Errno) {
	if e := checkBoth(a, b); e != api.OK {
		return Auto{}, e
	}
	pairs := from([2]int{0, 0})
	m := machine{letters: a.Letters}
	step := func(p [2]int, x int) [2]int { return [2]int{a.Next[p[0]][x], b.Next[p[1]][x]} }
	for _, p := range pairs.all(a.Letters, step) {
		m.good = append(m.good, good(a.Good[p[0]], b.Good[p[1]]))
	}
	m.next = pairs.next
	return result(m, api.OK)
}

// Follow returns the least automaton of the words that are one of a's followed by one of b's.
func Follow(a, b Auto) (Auto, api.Errno) {
	if e := checkBoth(a, b); e != api.OK {
		return Auto{}, e
	}
	return result(follow(least(a), least(b)).least())
}

// follow returns a web of words of a's followed by words of b's: b's states come after a's, and with each good state of a, the word of b's begins.
func follow(a, b machine) web {
	n := web{letters: a.letters}
	place := func(s int) set {
		if a.good[s] {
			return one(s).with(one(len(a.next)))
		}
		return one(s)
	}
	for _, row := range a.next {
		n.next = append(n.next, moves(row, a.letters, place))
	}
	inB := func(s int) set { return one(len(a.next) + s) }
	for s, row := range b.next {
		n.next = append(n.next, moves(row, b.letters, inB))
		if b.good[s] {
			n.good = n.good.with(inB(s))
		}
	}
	n.start = place(0)
	return n
}

// moves returns, for each letter, the set that stands for the state where the letter leads.
func moves(row [4]int, letters int, place func(s int) set) [4]set {
	out := [4]set{}
	for x := range letters {
		out[x] = place(row[x])
	}
	return out
}

// Repeat returns the least automaton of the words that are words of a's one after the other, the empty word included.
func Repeat(a Auto) (Auto, api.Errno) {
	if e := Check(a); e != api.OK {
		return Auto{}, e
	}
	return result(repeat(least(a)).least())
}

// repeat returns a web of words of a's one after the other: with each good state the next one begins. The state after a's stands for the beginning, where even none has come.
func repeat(a machine) web {
	begin := len(a.next)
	n := web{letters: a.letters, start: one(begin), good: one(begin)}
	place := func(s int) set {
		if a.good[s] {
			return one(s).with(one(0))
		}
		return one(s)
	}
	for s, row := range a.next {
		n.next = append(n.next, moves(row, a.letters, place))
		if a.good[s] {
			n.good = n.good.with(one(s))
		}
	}
	n.next = append(n.next, n.next[0])
	return n
}

// Reverse returns the least automaton of the words whose letters in the opposite order are a word of a's.
func Reverse(a Auto) (Auto, api.Errno) {
	if e := Check(a); e != api.OK {
		return Auto{}, e
	}
	return result(reverse(least(a)))
}

// reverse goes back through a from its good states. Sets of states that differ accept different words, as all states of a are reached; so more sets than an automaton may have states are too many.
func reverse(a machine) (machine, api.Errno) {
	n := a.web()
	sets := from(n.good)
	m := machine{letters: a.letters}
	for i, states := range sets.all(a.letters, n.before) {
		if i == api.MaxStates {
			return machine{}, api.ErrLarge
		}
		m.good = append(m.good, states.has(0))
	}
	m.next = sets.next
	return m, api.OK
}
