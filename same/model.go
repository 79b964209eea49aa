package same

import "minikin/api"

// mostValues is the greatest number of values of a table that Part returns.
const mostValues = 1000000

// Part returns a model that parts s = t from the given equations, and true, or false if there is none or a table would be too large.
func Part(given [][2]string, s, t string) (Model, bool) {
	m, e := lay(given, s, t)
	if e != api.OK {
		return Model{}, false
	}
	c := m.closed()
	if c.ask() {
		return Model{}, false
	}
	all := make([]int, len(m.nodes))
	for x := range all {
		all[x] = x
	}
	elements, size := c.numbered(all)
	for _, arity := range m.counts {
		if power(size, arity, mostValues) > mostValues {
			return Model{}, false
		}
	}
	return m.model(elements, size), true
}

// model returns a model in which each term has the value that is given for it. What names are of other elements is 0.
func (s *stock) model(values []int, size int) Model {
	m := Model{Size: size}
	tables := map[string]int{}
	for x, n := range s.nodes {
		at, ok := tables[n.name]
		if !ok {
			at = len(m.Tables)
			tables[n.name] = at
			m.Tables = append(m.Tables, Table{Name: n.name, Arity: n.count, Values: make([]int, power(size, n.count, mostValues))})
		}
		m.Tables[at].Values[n.index(values, size)] = values[x]
	}
	return m
}

// index returns where a table has the value of n, given those of its parts.
func (n *node) index(values []int, size int) int {
	at := 0
	for _, part := range n.under() {
		at = at*size + values[part]
	}
	return at
}

// power returns base^exponent for a base above 0, or most + 1 if that is more than most.
func power(base, exponent, most int) int {
	out := 1
	for range exponent {
		if out > most/base {
			return most + 1
		}
		out *= base
	}
	return out
}

// Parts reports whether m parts s = t from the given equations.
func Parts(given [][2]string, s, t string, m Model) bool {
	l, e := lay(given, s, t)
	if e != api.OK || m.Size < 1 {
		return false
	}
	tables := map[string]*Table{}
	for i := range m.Tables {
		x := &m.Tables[i]
		if arity, ok := l.counts[x.Name]; !ok || x.Arity != arity || tables[x.Name] != nil || !x.fits(m.Size) {
			return false
		}
		tables[x.Name] = x
	}
	if len(tables) < len(l.counts) {
		return false
	}
	values := make([]int, len(l.nodes))
	for x := range l.nodes {
		n := &l.nodes[x]
		values[x] = tables[n.name].Values[n.index(values, m.Size)]
	}
	for _, g := range l.given {
		if values[g[0]] != values[g[1]] {
			return false
		}
	}
	return values[l.asked[0]] != values[l.asked[1]]
}

// fits reports whether t has a value for all elements that it may be asked for, and all values are elements.
func (t *Table) fits(size int) bool {
	if len(t.Values) != power(size, t.Arity, len(t.Values)) {
		return false
	}
	for _, x := range t.Values {
		if x < 0 || x >= size {
			return false
		}
	}
	return true
}
