package ledger

import "slices"

// firstNumber is the number that variable 0 becomes in a frozen question; all constants are less.
const firstNumber = 2000000

// freeze returns the row that terms become when each variable is a number of its own.
func freeze(terms []int) []int {
	var out []int
	for _, term := range terms {
		if term < variables {
			out = append(out, firstNumber+term)
		} else {
			out = append(out, term-variables)
		}
	}
	return out
}

// thaw returns the term that became a number.
func thaw(number int) int {
	if number >= firstNumber {
		return number - firstNumber
	}
	return variables + number
}

// frozen returns the book of so many tables whose rows are the atoms of p.
func (p Query) frozen(tables int) []Table {
	out := make([]Table, tables)
	for i := range out {
		rows, width := sums{}, 0
		for _, a := range p.Atoms {
			if a.Table == i {
				rows[rowOf(freeze(a.Terms))], width = 1, len(a.Terms)
			}
		}
		out[i] = rows.table(width)
	}
	return out
}

// cover returns a cover of p by q, whose Head is as long, and whether there is one: values with which q, asked of the frozen p, gives the row of its Head. It does not matter whether the Head of p occurs in its atoms.
func (p Query) cover(q Query, tables int) ([]int, bool) {
	head := partOf(Atom{Terms: q.Head}, Table{{Row: freeze(p.Head), Count: 1}})
	for at := range search(head, partsOf(q, p.frozen(tables))) {
		cover := make([]int, variables)
		for x := range q.variables().All() {
			cover[x] = thaw(at[x])
		}
		return cover, true
	}
	return nil, false
}

// isCovered reports whether the list, which has a term for each variable, is a cover of p by q.
func (p Query) isCovered(q Query, cover []int) bool {
	put := func(terms []int) []int {
		out := slices.Clone(terms)
		for i, term := range out {
			if term < variables {
				out[i] = cover[term]
			}
		}
		return out
	}
	for x, term := range cover {
		if !q.variables().Has(x) && term != 0 {
			return false
		}
	}
	for _, a := range q.Atoms {
		if !slices.ContainsFunc(p.Atoms, func(b Atom) bool { return a.Table == b.Table && slices.Equal(put(a.Terms), b.Terms) }) {
			return false
		}
	}
	return slices.Equal(put(q.Head), p.Head)
}
