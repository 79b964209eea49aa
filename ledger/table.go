package ledger

import (
	"maps"
	"slices"

	"minikin/api"
)

// The bounds of tables and of books.
const (
	mostWidth   = 6
	mostEntries = 2000
	mostCount   = 1000000
	mostTables  = 8
)

// row is a row that can be a key of a map. It is as wide as its table, which keeps that in mind; what is beyond is 0.
type row [mostWidth]int

func rowOf(list []int) row {
	var r row
	copy(r[:], list)
	return r
}

// isTable reports whether t is a table, however many entries it has.
func (t Table) isTable() bool {
	for i, e := range t {
		if len(e.Row) > mostWidth || e.Count == 0 || e.Count < -mostCount || e.Count > mostCount {
			return false
		}
		if i > 0 && (len(e.Row) != len(t[0].Row) || slices.Compare(t[i-1].Row, e.Row) >= 0) {
			return false
		}
	}
	return true
}

func (t Table) clone() Table {
	out := slices.Clone(t)
	for i := range out {
		out[i].Row = slices.Clone(out[i].Row)
	}
	return out
}

func cloneAll(book []Table) []Table {
	out := slices.Clone(book)
	for i, t := range out {
		out[i] = t.clone()
	}
	return out
}

// checkBook returns ErrLong if there are too many tables, or the error of the first one that has one.
func checkBook(book []Table) api.Errno {
	if len(book) > mostTables {
		return api.ErrLong
	}
	for _, t := range book {
		if e := Check(t); e != api.OK {
			return e
		}
	}
	return api.OK
}

// sum returns the sum of a and of b with its counts times a number.
func sum(a, b Table, times int) (Table, api.Errno) {
	if e := checkBook([]Table{a, b}); e != api.OK {
		return nil, e
	}
	if len(a) > 0 && len(b) > 0 && len(a[0].Row) != len(b[0].Row) {
		return nil, api.ErrShape
	}
	total, width := sums{}, 0
	for _, e := range a {
		width = len(e.Row)
		total[rowOf(e.Row)] += int64(e.Count)
	}
	for _, e := range b {
		width = len(e.Row)
		total[rowOf(e.Row)] += int64(e.Count * times)
	}
	return bounded(func() Table { return total.table(width) })
}

// split returns the entries of t whose rows are in by, and the others.
func split(t, by Table) (within, beside Table) {
	rows := map[row]bool{}
	for _, e := range by {
		rows[rowOf(e.Row)] = true
	}
	for _, e := range t {
		if rows[rowOf(e.Row)] {
			within = append(within, e)
		} else {
			beside = append(beside, e)
		}
	}
	return within, beside
}

// sums are counts of rows that are still being added up.
type sums map[row]int64

// table returns the table of the counts that are not 0, whose rows have a width, or panics if it would be none or too long.
func (s sums) table(width int) Table {
	var out Table
	for _, r := range rising(s, func(a, b row) int { return slices.Compare(a[:], b[:]) }) {
		count := s[r]
		if count == 0 {
			continue
		}
		need(len(out) < mostEntries && -mostCount <= count && count <= mostCount)
		out = append(out, Entry{Row: slices.Clone(r[:width]), Count: int(count)})
	}
	return out
}

// rising returns the keys of a map in their order.
func rising[K comparable, V any](m map[K]V, order func(a, b K) int) []K {
	return slices.SortedFunc(maps.Keys(m), order)
}

// tooLarge is what a calculation panics with if its result, or what leads to it, is too large.
type tooLarge struct{}

func need(ok bool) {
	if !ok {
		panic(tooLarge{})
	}
}

// bounded returns the table that the calculation returns, or ErrHuge if it panics.
func bounded(calculation func() Table) (t Table, e api.Errno) {
	defer func() {
		if recover() != nil {
			t, e = nil, api.ErrHuge
		}
	}()
	return calculation(), api.OK
}
