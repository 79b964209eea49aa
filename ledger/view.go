package ledger

import (
	"iter"
	"slices"

	"minikin/api"
)

// mostValuations is how many valuations a result may have.
const mostValuations = 200000

// open returns a view of the result of q for the book, which shares its memory with both.
func open(q Query, book []Table) (*View, api.Errno) {
	if e := checkAll(q, book); e != api.OK {
		return nil, e
	}
	v := &View{query: q, book: book, parts: partsOf(q, book)}
	rows, e := bounded(func() Table {
		found := sums{}
		for at, product := range search(nothing(), v.parts) {
			v.add(found, at, product)
		}
		return found.table(len(q.Head))
	})
	if e != api.OK {
		return nil, e
	}
	v.rows = rows
	return v, api.OK
}

// add adds to sums what a valuation gives, or panics if it is one too many, or its product too large.
func (v *View) add(to sums, at values, product int64) {
	v.number++
	need(v.number <= mostValuations && -mostProduct <= product && product <= mostProduct)
	to[at.row(v.query.Head)] += product
}

// takeOff takes off what a valuation has given.
func (v *View) takeOff(from sums, at values, product int64) {
	v.number--
	from[at.row(v.query.Head)] -= product
}

// changed returns a table of the book with what is added to it, or the error why this cannot be.
func changed(q Query, book []Table, table int, by Table) (Table, api.Errno) {
	if table < 0 || table >= len(book) {
		return nil, api.ErrArg
	}
	after, e := Plus(book[table], by)
	if e != api.OK {
		return nil, e
	}
	next := slices.Clone(book)
	next[table] = after
	if e := checkQuery(q, next); e != api.OK {
		return nil, e
	}
	return after, api.OK
}

// with returns a view of the book with another table, whose result is still that of v.
func (v *View) with(table int, t Table) View {
	next := *v
	next.book, next.parts = slices.Clone(v.book), slices.Clone(v.parts)
	next.book[table] = t
	for i, a := range v.query.Atoms {
		if a.Table == table {
			next.parts[i] = partOf(a, t)
		}
	}
	return next
}

// update returns the difference between the results for the book of v and for that of last, which differ in the rows that by has. Valuations are taken off first, so that there are never more of them than those for one of both books.
func (v *View) update(last *View, table int, by Table) Table {
	found := sums{}
	for at, product := range last.touched(table, by) {
		v.takeOff(found, at, product)
	}
	for at, product := range v.touched(table, by) {
		v.add(found, at, product)
	}
	return found.table(len(v.query.Head))
}

// touched yields the valuations for which an atom becomes one of the rows of a table that are in by: each of them once, when the first such atom has its turn.
func (v *View) touched(table int, by Table) iter.Seq2[values, int64] {
	return func(yield func(values, int64) bool) {
		within, beside := split(v.book[table], by)
		parts := slices.Clone(v.parts)
		for i, a := range v.query.Atoms {
			if a.Table != table {
				continue
			}
			for at, product := range search(partOf(a, within), without(parts, i)) {
				if !yield(at, product) {
					return
				}
			}
			parts[i] = partOf(a, beside)
		}
	}
}
