package word

import (
	"minikin/api"
)

// machine is an automaton all of whose states are reached; they are numbered in the order of the first words that lead to them. It may have more states than an Auto.
type machine struct {
	letters int
	next    [][4]int
	good    []bool
}

// reached returns the part of a that is reached.
func reached(a Auto) machine {
	s := from(0)
	m := machine{letters: a.Letters}
	for _, state := range s.all(a.Letters, func(state, x int) int { return a.Next[state][x] }) {
		m.good = append(m.good, a.Good[state])
	}
	m.next = s.next
	return m
}

// auto returns m as an Auto.
func (m machine) auto() Auto {
	a := Auto{Letters: m.letters, Good: append([]bool{}, m.good...)}
	for _, row := range m.next {
		a.Next = append(a.Next, append([]int{}, row[:m.letters]...))
	}
	return a
}

// least returns the least automaton of a's language.
func least(a Auto) machine {
	m, _ := reached(a).least()
	return m
}

// least returns the least automaton of m's language, or ErrLarge if it has too many states.
func (m machine) least() (machine, api.Errno) {
	class, count := number(m.good)
	for {
		keys := make([][5]int, len(class))
		for s, row := range m.next {
			for x, t := range row {
				keys[s][x] = class[t]
			}
			keys[s][4] = class[s]
		}
		finer, more := number(keys)
		if more == count {
			break
		}
		class, count = finer, more
		if count > api.MaxStates {
			return machine{}, api.ErrLarge
		}
	}
	return m.joined(class, count), api.OK
}

// joined makes one state of each class. As a class has the number of its first state's turn, the order of the first words is kept.
func (m machine) joined(class []int, count int) machine {
	out := machine{letters: m.letters, next: make([][4]int, count), good: make([]bool, count)}
	for s, c := range class {
		out.good[c] = m.good[s]
		for x, t := range m.next[s] {
			out.next[c][x] = class[t]
		}
	}
	return out
}

// number gives equal keys the same number, in the order in which they come first, and returns how many numbers it gave.
func number[K comparable](keys []K) ([]int, int) {
	numbers := map[K]int{}
	out := make([]int, len(keys))
	for i, key := range keys {
		n, ok := numbers[key]
		if !ok {
			n = len(numbers)
			numbers[key] = n
		}
		out[i] = n
	}
	return out, len(numbers)
}

// run returns the state to which w leads from a state.
func (m machine) run(state int, w string) int {
	for i := range len(w) {
		state = m.next[state][w[i]-'a']
	}
	return state
}

// part returns the first word that just one of the states s and t accepts.
func (m machine) part(s, t int, other machine) (string, bool) {
	pairs := from([2]int{s, t})
	step := func(p [2]int, x int) [2]int { return [2]int{m.next[p[0]][x], other.next[p[1]][x]} }
	for i, p := range pairs.all(m.letters, step) {
		if m.good[p[0]] != other.good[p[1]] {
			return pairs.word(i), true
		}
	}
	return "", false
}
