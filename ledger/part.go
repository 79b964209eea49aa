package ledger

import "minikin/small"

// values are those of the variables; of a variable that has none yet, 0.
type values [variables]int

// only returns the values of the variables in a set.
func (v values) only(set small.Set) values {
	var out values
	for x := range set.All() {
		out[x] = v[x]
	}
	return out
}

// row returns the row of the values of a Head.
func (v values) row(head []int) row {
	var r row
	for i, x := range head {
		r[i] = v[x]
	}
	return r
}

// line is what an entry of a table says of the variables of an atom.
type line struct {
	at    values
	count int64
}

// part is an atom at a table. Its function finds the lines that fit, by the values of a set of its variables.
type part struct {
	vars  small.Set
	lines int
	fit   func(bound small.Set) map[values][]line
}

// partOf returns an atom at a table.
func partOf(a Atom, t Table) part {
	var lines []line
	for _, e := range t {
		if at, ok := a.read(e.Row); ok {
			lines = append(lines, line{at: at, count: int64(e.Count)})
		}
	}
	return part{vars: a.variables(), lines: len(lines), fit: finder(lines)}
}

// isEmpty reports whether the atom can become no row.
func (p part) isEmpty() bool {
	return p.lines == 0
}

// partsOf returns the atoms of a question, each at its table of the book.
func partsOf(q Query, book []Table) []part {
	var out []part
	for _, a := range q.Atoms {
		out = append(out, partOf(a, book[a.Table]))
	}
	return out
}

// nothing returns an atom without terms, which becomes a row once whatever the values are.
func nothing() part {
	return partOf(Atom{}, Table{{Count: 1}})
}

// read returns the values of the variables with which the atom becomes a row, and whether it can.
func (a Atom) read(row []int) (values, bool) {
	var at values
	var seen small.Set
	for i, term := range a.Terms {
		if term >= variables {
			if row[i] != term-variables {
				return values{}, false
			}
			continue
		}
		if seen.Has(term) && at[term] != row[i] {
			return values{}, false
		}
		at[term], seen = row[i], seen|small.One(term)
	}
	return at, true
}

// finder returns the function that finds lines by the values of a set of variables. It puts them in order the first time that it is asked for that set.
func finder(lines []line) func(bound small.Set) map[values][]line {
	orders := map[small.Set]map[values][]line{}
	return func(bound small.Set) map[values][]line {
		if order := orders[bound]; order != nil {
			return order
		}
		order := map[values][]line{}
		for _, l := range lines {
			key := l.at.only(bound)
			order[key] = append(order[key], l)
		}
		orders[bound] = order
		return order
	}
}
