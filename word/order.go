package word

import (
	"iter"

	"minikin/api"
)

// Differ returns the first word that just one of a and b accepts, and true, or false if there is none.
func Differ(a, b Auto) (w string, differ bool, e api.Errno) {
	if e := checkBoth(a, b); e != api.OK {
		return "", false, e
	}
	w, differ = reached(a).part(0, 0, reached(b))
	return w, differ, api.OK
}

// Part returns the first word w for which just one of u w and v w is in the language, and true, or false if there is none.
func Part(a Auto, u, v string) (string, bool, api.Errno) {
	if e := Check(a); e != api.OK {
		return "", false, e
	}
	for _, w := range [2]string{u, v} {
		if e := checkWord(a.Letters, w); e != api.OK {
			return "", false, e
		}
	}
	m := reached(a)
	w, ok := m.part(m.run(0, u), m.run(0, v), m)
	return w, ok, api.OK
}

// First returns the first word that a accepts, or ErrNone.
func First(a Auto) (string, api.Errno) {
	if e := Check(a); e != api.OK {
		return "", e
	}
	for w := range reached(a).words() {
		return w, api.OK
	}
	return "", api.ErrNone
}

// Words returns the first words that a accepts, at most that many.
func Words(a Auto, most int) ([]string, api.Errno) {
	if e := Check(a); e != api.OK {
		return nil, e
	}
	if most < 1 || most > 1000 {
		return nil, api.ErrArg
	}
	var out []string
	for w := range reached(a).words() {
		out = append(out, w)
		if len(out) == most {
			break
		}
	}
	return out, api.OK
}

// words yields the words of m's language in their order, for a machine of at most 64 states.
func (m machine) words() iter.Seq[string] {
	return func(yield func(string) bool) {
		// For each length, a bit for each state that accepts a word of that length. Once no state does, there are no longer words; as long as one does, so does state 0 for a length that is not much greater, since it leads to all states.
		live := []uint64{m.accepting()}
		for last := live[0]; last != 0; live = append(live, last) {
			if !m.spell(0, nil, live, yield) {
				return
			}
			last = m.before(last)
		}
	}
}

// accepting returns the bits of the good states.
func (m machine) accepting() uint64 {
	out := uint64(0)
	for s, good := range m.good {
		if good {
			out |= 1 << s
		}
	}
	return out
}

// before returns the bits of the states from which a letter leads to a state with a bit.
func (m machine) before(states uint64) uint64 {
	out := uint64(0)
	for s, row := range m.next {
		for _, t := range row[:m.letters] {
			if states>>t&1 == 1 {
				out |= 1 << s
			}
		}
	}
	return out
}

// spell yields the words that go on from a beginning, which led to the state, by as many letters as live's last bits are for.
func (m machine) spell(state int, beginning []byte, live []uint64, yield func(string) bool) bool {
	left := len(live) - 1
	if live[left]>>state&1 == 0 {
		return true
	}
	if left == 0 {
		return yield(string(beginning))
	}
	for x := range m.letters {
		if !m.spell(m.next[state][x], append(beginning, 'a'+byte(x)), live[:left], yield) {
			return false
		}
	}
	return true
}

// Count returns the number of the words of the length n that a accepts.
func Count(a Auto, n int) (int64, api.Errno) {
	if e := Check(a); e != api.OK {
		return 0, e
	}
	if n < 0 || n > 30 {
		return 0, api.ErrArg
	}
	counts := make([]int64, len(a.Next))
	for s, good := range a.Good {
		if good {
			counts[s] = 1
		}
	}
	for range n {
		longer := make([]int64, len(counts))
		for s, row := range a.Next {
			for _, t := range row {
				longer[s] += counts[t]
			}
		}
		counts = longer
	}
	return counts[0], api.OK
}

// Classes returns, for each state of the least automaton, the first word that leads to it.
func Classes(a Auto) ([]string, api.Errno) {
	if e := Check(a); e != api.OK {
		return nil, e
	}
	m := least(a)
	s := from(0)
	var out []string
	for i := range s.all(m.letters, func(state, x int) int { return m.next[state][x] }) {
		out = append(out, s.word(i))
	}
	return out, api.OK
}
