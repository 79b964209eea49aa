package word

import (
	"minikin/api"
)

// maxMonoid is the greatest size of a monoid that is found.
const maxMonoid = 5000

// A map of states is a string: its byte number s is the state to which it maps s. As there are at most 64 states, each byte is a rune.

// same returns the map that the empty word is.
func (m machine) same() string {
	out := make([]byte, len(m.next))
	for s := range out {
		out[s] = byte(s)
	}
	return string(out)
}

// then returns the map that maps each state where f does and then goes by the letter number x.
func (m machine) then(f string, x int) string {
	out := make([]byte, len(f))
	for s, t := range f {
		out[s] = byte(m.next[t][x])
	}
	return string(out)
}

// monoid finds all maps, each by its first word, or reports that there are too many.
func (m machine) monoid() (*search[string], bool) {
	maps := from(m.same())
	for i := range maps.all(m.letters, m.then) {
		if i == maxMonoid {
			return nil, false
		}
	}
	return maps, true
}

// period returns the number of different states to which a map leads from s, one after the other, before it comes back to s; 0 if it does not.
func period(f string, s int) int {
	t := s
	for i := range len(f) {
		t = int(f[t])
		if t == s {
			return i + 1
		}
	}
	return 0
}

// Monoid returns the size of a's monoid.
func Monoid(a Auto) (int, api.Errno) {
	if e := Check(a); e != api.OK {
		return 0, e
	}
	maps, ok := least(a).monoid()
	if !ok {
		return 0, api.ErrLarge
	}
	return len(maps.states), api.OK
}

// Group returns a group witness, or false if a's language is free of groups.
func Group(a Auto) (x string, p int, ok bool, e api.Errno) {
	if e := Check(a); e != api.OK {
		return "", 0, false, e
	}
	maps, ok := least(a).monoid()
	if !ok {
		return "", 0, false, api.ErrLarge
	}
	for i, f := range maps.states {
		for s := range f {
			if p := period(f, s); p > 1 {
				return maps.word(i), p, true, api.OK
			}
		}
	}
	return "", 0, false, api.OK
}

// IsGroup reports whether x and p are a group witness of a's language.
func IsGroup(a Auto, x string, p int) bool {
	if Check(a) != api.OK || checkWord(a.Letters, x) != api.OK || p < 2 {
		return false
	}
	m := least(a)
	f := m.same()
	for i := range len(x) {
		f = m.then(f, int(x[i]-'a'))
	}
	for s := range f {
		if period(f, s) == p {
			return true
		}
	}
	return false
}
