package ledger

import (
	"slices"

	"minikin/api"
	"minikin/small"
)

// The bounds of questions. A term that is not less than variables is a constant.
const (
	mostAtoms    = 6
	variables    = 10
	mostConstant = 1000000
)

// isQuestion reports whether q is a question for tables of these widths.
func (q Query) isQuestion(widths []int) bool {
	if len(q.Atoms) < 1 || len(q.Atoms) > mostAtoms || len(q.Head) > mostWidth {
		return false
	}
	for _, a := range q.Atoms {
		if a.Table < 0 || a.Table >= len(widths) || len(a.Terms) != widths[a.Table] || !a.areTerms() {
			return false
		}
	}
	for _, x := range q.Head {
		if x < 0 || x >= variables || !q.variables().Has(x) {
			return false
		}
	}
	return true
}

// areTerms reports whether there are not too many terms of an atom, and all of them are in their range.
func (a Atom) areTerms() bool {
	return len(a.Terms) <= mostWidth && !slices.ContainsFunc(a.Terms, func(term int) bool {
		return term < 0 || term > variables+mostConstant
	})
}

// variables returns the variables that occur in a.
func (a Atom) variables() small.Set {
	var s small.Set
	for _, term := range a.Terms {
		if term < variables {
			s |= small.One(term)
		}
	}
	return s
}

// variables returns the variables that occur in the atoms of q.
func (q Query) variables() small.Set {
	var s small.Set
	for _, a := range q.Atoms {
		s |= a.variables()
	}
	return s
}

func (q Query) clone() Query {
	out := Query{Head: slices.Clone(q.Head), Atoms: slices.Clone(q.Atoms)}
	for i, a := range out.Atoms {
		out.Atoms[i].Terms = slices.Clone(a.Terms)
	}
	return out
}

// checkQuery returns ErrQuery if q is no question for the book. A table without entries is as wide as the first atom says that names it.
func checkQuery(q Query, book []Table) api.Errno {
	widths := make([]int, len(book))
	for i, t := range book {
		first := slices.IndexFunc(q.Atoms, func(a Atom) bool { return a.Table == i })
		switch {
		case len(t) > 0:
			widths[i] = len(t[0].Row)
		case first >= 0:
			widths[i] = len(q.Atoms[first].Terms)
		}
	}
	if !q.isQuestion(widths) {
		return api.ErrQuery
	}
	return api.OK
}

// checkAll returns the error of the book, or of q for it.
func checkAll(q Query, book []Table) api.Errno {
	if e := checkBook(book); e != api.OK {
		return e
	}
	return checkQuery(q, book)
}

// without returns a list without what is at i.
func without[T any](list []T, i int) []T {
	return slices.Delete(slices.Clone(list), i, i+1)
}
