package word

import (
	"iter"
	"slices"
)

// none is the number of no state.
const none = -1

// search numbers states in the order in which they are found, and remembers the words that led to them.
type search[K comparable] struct {
	number map[K]int
	states []K
	before []int    // the state from which a state was found
	letter []byte   // the letter by which it was found
	next   [][4]int // for each state that all has gone on from, where the letters lead
}

// newSearch returns a search that has found nothing.
func newSearch[K comparable]() *search[K] {
	return &search[K]{number: map[K]int{}}
}

// from returns a search that has found the start.
func from[K comparable](start K) *search[K] {
	s := newSearch[K]()
	s.find(start, none, 0)
	return s
}

// find returns the number of a state to which a letter leads from the state with the number before.
func (s *search[K]) find(state K, before, letter int) int {
	if i, ok := s.number[state]; ok {
		return i
	}
	i := len(s.states)
	s.number[state] = i
	s.states = append(s.states, state)
	s.before = append(s.before, before)
	s.letter = append(s.letter, 'a'+byte(letter))
	return i
}

// all yields the states that are reached by steps, with their numbers. As it goes on from each state by the letters in their order, the states come in the order of the first words that lead to them.
func (s *search[K]) all(letters int, step func(state K, letter int) K) iter.Seq2[int, K] {
	return func(yield func(int, K) bool) {
		for i := 0; i < len(s.states); i++ {
			if !yield(i, s.states[i]) {
				return
			}
			row := [4]int{}
			for x := range letters {
				row[x] = s.find(step(s.states[i], x), i, x)
			}
			s.next = append(s.next, row)
		}
	}
}

// word returns the word by which the state with the number i was found.
func (s *search[K]) word(i int) string {
	var out []byte
	for s.before[i] != none {
		out = append(out, s.letter[i])
		i = s.before[i]
	}
	slices.Reverse(out)
	return string(out)
}
