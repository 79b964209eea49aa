package word

import (
	"minikin/api"
)

// maxEnds is the number of endings that are tried at first; each of those that follow makes for one state more.
const maxEnds = 960

// marks tell which endings a set accepts, by a bit for each.
type marks [(maxEnds + api.MaxStates) / 64]uint64

// sorter finds the least automaton of a web without listing all sets of states that words lead to: of sets that no known ending tells apart it keeps one.
type sorter struct {
	web
	ends []set // for each ending the states that accept it
	kept []set // sets to which words lead, each two of them told apart by an ending
	next [][4]int
}

// least returns the least automaton of the web's language, or ErrLarge if it has too many states.
func (n web) least() (machine, api.Errno) {
	n = n.trimmed()
	s := &sorter{web: n, kept: []set{n.start}}
	all := s.tryEnds()
	for s.close() {
		m := s.machine()
		w, differ := "", false
		if !all {
			w, differ = n.differ(m)
		}
		if !differ {
			return m.least()
		}
		s.ends = append(s.ends, s.ending(w))
	}
	return machine{}, api.ErrLarge
}

// tryEnds finds the sets of states that accept the first endings, and reports whether they are those of all endings.
func (s *sorter) tryEnds() bool {
	ends := from(s.web.good)
	for i := range ends.all(s.letters, s.before) {
		if i == maxEnds {
			return false
		}
		s.ends = ends.states[:i+1]
	}
	return true
}

// close goes on by letters from all sets that are kept, and keeps those that endings tell apart from them, or reports that they are too many.
func (s *sorter) close() bool {
	numbers := map[marks]int{}
	for i, t := range s.kept {
		numbers[s.marks(t)] = i
	}
	s.next = nil
	for i := 0; i < len(s.kept); i++ {
		next := [4]int{}
		for x := range s.letters {
			t := s.step(s.kept[i], x)
			r := s.marks(t)
			j, ok := numbers[r]
			if !ok {
				j = len(s.kept)
				numbers[r] = j
				s.kept = append(s.kept, t)
			}
			next[x] = j
		}
		s.next = append(s.next, next)
		if len(s.kept) > api.MaxStates {
			return false
		}
	}
	return true
}

// marks returns the marks of a set.
func (s *sorter) marks(t set) marks {
	out := marks{}
	for i, end := range s.ends {
		if t.meets(end) {
			out[i/64] |= 1 << (i % 64)
		}
	}
	return out
}

// machine returns the automaton whose states are the sets that are kept.
func (s *sorter) machine() machine {
	m := machine{letters: s.letters, next: s.next}
	for _, t := range s.kept {
		m.good = append(m.good, t.meets(s.web.good))
	}
	return reached(m.auto())
}

// ending returns an ending that tells a set to which the letters of w lead from the set that is kept in its place, where just one of the web and the automaton accepts w.
func (s *sorter) ending(w string) set {
	path := []int{0}
	for i := range len(w) {
		path = append(path, s.next[path[i]][w[i]-'a'])
	}
	end := s.web.good
	for i := len(w) - 1; i >= 0; i-- {
		longer := s.before(end, int(w[i]-'a'))
		if s.kept[path[i]].meets(longer) != s.kept[path[i+1]].meets(end) {
			break
		}
		end = longer
	}
	return end
}
