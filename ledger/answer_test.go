package ledger_test

import (
	"fmt"
	"math"
	"math/big"
	"slices"
	"testing"

	"minikin/api"
	"minikin/ledger"
)

// noQuestions are no questions for the widths 2, 0, 6, 1.
func noQuestions() []ledger.Query {
	good := []int{0, 0, 1}
	return []ledger.Query{
		{}, ask(nil), ask([]int{0}),
		ask([]int{0}, good, good, good, good, good, good, good), ask(nil, good, good, good, good, good, good, good), {Atoms: make([]ledger.Atom, 100000)},
		ask(nil, []int{-1, 0, 1}), ask(nil, []int{4, 0, 1}), ask(nil, []int{math.MaxInt, 0, 1}), ask(nil, []int{math.MinInt}), ask(nil, good, []int{4}),
		ask(nil, []int{0}), ask(nil, []int{0, 1}), ask(nil, []int{0, 0, 1, 2}), ask(nil, []int{1, 0}), ask(nil, []int{2, 0, 1, 2, 3, 4}), ask(nil, []int{2, 0, 1, 2, 3, 4, 5, 6}), ask(nil, []int{3}), ask(nil, []int{3, 0, 1}), ask(nil, good, []int{0, 1}),
		ask(nil, []int{0, 0, -1}), ask(nil, []int{0, 1000011, 0}), ask(nil, []int{3, math.MaxInt}), ask(nil, []int{3, math.MinInt}), ask(nil, good, []int{3, -1}),
		ask([]int{2}, good), ask([]int{0, 1, 2}, good), ask([]int{-1}, good), ask([]int{0, -1}, good), ask([]int{10}, []int{0, 0, 10}), ask([]int{math.MaxInt}, good), ask([]int{math.MinInt}, good), ask([]int{0}, []int{0, 10, 10}), ask([]int{0}, []int{1}),
		ask([]int{0, 0, 0, 0, 0, 0, 0}, good), ask([]int{0, 1, 2, 3, 4, 5, 6}, []int{2, 0, 1, 2, 3, 4, 5}, []int{3, 6}),
	}
}

// questions are some for the widths 2, 0, 6, 1.
func questions() []ledger.Query {
	good := []int{0, 0, 1}
	return []ledger.Query{
		ask(nil, good), ask([]int{0}, good), ask([]int{1, 0, 1, 1, 0, 0}, good), ask([]int{0, 0, 0, 0, 0, 0}, good, good, good, good, good, good),
		ask(nil, []int{1}), ask(nil, []int{1}, []int{1}), ask(nil, []int{3, 10}), ask(nil, []int{3, 1000010}), ask([]int{9}, []int{3, 9}),
		ask([]int{0, 1, 2, 3, 4, 5}, []int{2, 0, 1, 2, 3, 4, 5}), ask([]int{9, 8, 7, 6, 5, 4}, []int{2, 4, 5, 6, 7, 8, 9}, []int{0, 0, 1}, []int{0, 2, 3}),
		ask([]int{0}, []int{0, 0, 0}), ask(nil, []int{0, 10, 11}), ask([]int{0}, []int{3, 10}, []int{0, 0, 13}), ask([]int{1}, good, []int{1}, []int{3, 1}),
	}
}

// TestCheckQuery: P9.2 for CheckQuery.
func TestCheckQuery(t *testing.T) {
	widths := []int{2, 0, 6, 1}
	for i, q := range questions() {
		if e := ledger.CheckQuery(q, widths); e != api.OK {
			t.Errorf("question %d: %d", i, e)
		}
	}
	for i, q := range append(noQuestions(), questions()...) {
		for _, c := range []struct {
			widths []int
			due    api.Errno
		}{
			{widths, api.ErrQuery}, {nil, api.ErrQuery},
			{[]int{2, 0, 6, 7}, api.ErrArg}, {[]int{2, 0, 6, 1, -1}, api.ErrArg}, {[]int{2, 0, 6, 1, math.MaxInt}, api.ErrArg}, {[]int{math.MinInt}, api.ErrArg},
			{make([]int, 9), api.ErrLong}, {[]int{9, 9, 9, 9, 9, 9, 9, 9, 9}, api.ErrLong}, {make([]int, 100000), api.ErrLong},
		} {
			if i >= len(noQuestions()) && c.due == api.ErrQuery && c.widths != nil {
				continue
			}
			if e := ledger.CheckQuery(q, c.widths); e != c.due {
				t.Errorf("%d for %v: %d, not %d", i, c.widths[:min(9, len(c.widths))], e, c.due)
			}
		}
	}
	for at := range 8 {
		q := ask([]int{3}, []int{at, 3, 12})
		l := []int{6, 0, 6, 0, 6, 0, 6, 0}
		l[at] = 2
		if e := ledger.CheckQuery(q, l); e != api.OK {
			t.Errorf("table %d of 8: %d", at, e)
		}
		if e := ledger.CheckQuery(q, l[:at]); e != api.ErrQuery {
			t.Errorf("table %d of %d: %d", at, at, e)
		}
	}
}

// TestNoQuestions: P9.2's ErrQuery for all functions with a book, and that it does not come where q is a question.
func TestNoQuestions(t *testing.T) {
	full := []ledger.Table{table([]int{1, 2, 1}), {{Count: 3}}, table([]int{1, 2, 3, 4, 5, 6, 7}), column(1, 3, 1)}
	for i, q := range noQuestions() {
		a, e := ledger.Answer(q, full)
		same(t, fmt.Sprint("Answer ", i), a, e, nil, api.ErrQuery)
		a, e = ledger.AnswerSet(q, full)
		same(t, fmt.Sprint("AnswerSet ", i), a, e, nil, api.ErrQuery)
		a, e = ledger.Change(q, full, 3, column(2, 1, 1))
		same(t, fmt.Sprint("Change ", i), a, e, nil, api.ErrQuery)
		if v, e := ledger.Open(q, full); v != nil || e != api.ErrQuery {
			t.Errorf("Open %d: %v, %d", i, v, e)
		}
	}
	for i, q := range questions() {
		for _, book := range [][]ledger.Table{full, make([]ledger.Table, 4), {nil, full[1], {}, full[3]}} {
			o := join(q, book)
			due, dueE := o.table()
			a, e := ledger.Answer(q, book)
			same(t, fmt.Sprint("Answer ", i), a, e, due, dueE)
			due, dueE = o.set()
			a, e = ledger.AnswerSet(q, book)
			same(t, fmt.Sprint("AnswerSet ", i), a, e, due, dueE)
		}
	}
}

// TestWidths: P9.2 for tables without entries: the first atom that names one says how wide it is.
func TestWidths(t *testing.T) {
	one := column(1, 2, 1)
	seven := []int{0, 0, 1, 2, 3, 4, 5, 6}
	for i, c := range []struct {
		q    ledger.Query
		book []ledger.Table
		due  api.Errno
	}{
		{ask(nil, []int{0}), []ledger.Table{nil}, api.OK},
		{ask(nil, []int{0, 0}), []ledger.Table{nil}, api.OK},
		{ask([]int{5}, []int{0, 0, 1, 2, 3, 4, 5}), []ledger.Table{{}}, api.OK},
		{ask(nil, []int{0, 0, 1}, []int{0, 2, 3}), []ledger.Table{nil}, api.OK},
		{ask(nil, []int{0, 0, 1}, []int{1, 0}, []int{0, 2, 3}), []ledger.Table{nil, one}, api.OK},
		{ask(nil, []int{0, 0, 1}, []int{1, 0}), []ledger.Table{nil, nil}, api.OK},
		{ask(nil, []int{1, 0}), []ledger.Table{table([]int{1, 2, 3, 4}), one, nil}, api.OK},
		{ask(nil, []int{0, 0, 1}, []int{0, 2}), []ledger.Table{nil}, api.ErrQuery},
		{ask(nil, []int{0, 0}, []int{0, 2, 3}), []ledger.Table{nil}, api.ErrQuery},
		{ask(nil, []int{0, 0}, []int{1, 0}, []int{0}), []ledger.Table{nil, one}, api.ErrQuery},
		{ask(nil, []int{0, 0}, []int{0, 0}, []int{0, 0, 0}), []ledger.Table{nil}, api.ErrQuery},
		{ask(nil, seven), []ledger.Table{nil}, api.ErrQuery},
		{ask(nil, seven, seven), []ledger.Table{nil}, api.ErrQuery},
		{ask(nil, append([]int{0}, make([]int, 1000)...)), []ledger.Table{nil}, api.ErrQuery},
		{ask(nil, []int{1, 0}), []ledger.Table{one}, api.ErrQuery},
		{ask(nil, []int{0, 0}), nil, api.ErrQuery},
		{ask(nil, []int{0, -1}), []ledger.Table{nil}, api.ErrQuery},
		{ask([]int{0}, []int{0}), []ledger.Table{nil}, api.ErrQuery},
	} {
		a, e := ledger.Answer(c.q, c.book)
		b, f := ledger.AnswerSet(c.q, c.book)
		v, g := ledger.Open(c.q, c.book)
		if e != c.due || f != c.due || g != c.due || (v == nil) != (c.due != api.OK) || c.due != api.OK && len(a)+len(b) > 0 {
			t.Errorf("%d: %d, %d, %d, not %d", i, e, f, g, c.due)
		}
	}
}

// TestAnswers: P9.2 for Answer and AnswerSet, from the definition, and P9.9: atoms may be exchanged.
func TestAnswers(t *testing.T) {
	m := newMaker(3)
	filled, cancelled, huge := 0, 0, 0
	for i := range 6000 {
		m.most = []int{1, 3, 3000}[i%3]
		q, book := m.shop()
		o := define(q, book)
		due, dueE := o.table()
		set, setE := o.set()
		if len(due) > 1 {
			filled++
		}
		if dueE == api.OK && len(due) < len(set) {
			cancelled++
		}
		if dueE == api.ErrHuge {
			huge++
		}
		for range 3 {
			a, e := ledger.Answer(q, book)
			b, f := ledger.AnswerSet(q, book)
			if !same(t, fmt.Sprint("Answer ", q, book), a, e, due, dueE) || !same(t, fmt.Sprint("AnswerSet ", q, book), b, f, set, setE) {
				return
			}
			m.Shuffle(len(q.Atoms), func(i, j int) { q.Atoms[i], q.Atoms[j] = q.Atoms[j], q.Atoms[i] })
		}
	}
	if filled < 500 || cancelled < 50 || huge < 50 {
		t.Errorf("%d results with several rows, %d in which some cancel, %d too large", filled, cancelled, huge)
	}
}

// TestShapes: P9.2 where atoms are the same, have constants alone, or a variable twice.
func TestShapes(t *testing.T) {
	book := []ledger.Table{table([]int{0, 0, 2}, []int{0, 7, 3}, []int{7, 0, -5}, []int{7, 7, 4}), {{Count: -2}}, nil}
	for i, c := range []struct {
		q        ledger.Query
		due, set ledger.Table
	}{
		{ask([]int{3}, []int{0, 3, 3}), table([]int{0, 2}, []int{7, 4}), column(0, 1, 1)},
		{ask([]int{0, 1}, []int{0, 0, 1}, []int{0, 0, 1}), table([]int{0, 0, 4}, []int{0, 7, 9}, []int{7, 0, 25}, []int{7, 7, 16}), nil},
		{ask([]int{0, 0, 1}, []int{0, 0, 1}, []int{0, 1, 0}), table([]int{0, 0, 0, 4}, []int{0, 0, 7, -15}, []int{7, 7, 0, -15}, []int{7, 7, 7, 16}), nil},
		{ask(nil, []int{0, 10, 17}), ledger.Table{{Count: 3}}, ledger.Table{{Count: 1}}},
		{ask(nil, []int{0, 10, 17}, []int{0, 17, 10}, []int{0, 17, 10}), ledger.Table{{Count: 75}}, ledger.Table{{Count: 1}}},
		{ask(nil, []int{0, 10, 18}), nil, nil},
		{ask(nil, []int{0, 10, 17}, []int{0, 10, 18}), nil, nil},
		{ask(nil, []int{1}), ledger.Table{{Count: -2}}, ledger.Table{{Count: 1}}},
		{ask(nil, []int{1}, []int{1}, []int{1}), ledger.Table{{Count: -8}}, ledger.Table{{Count: 1}}},
		{ask(nil, []int{2}), nil, nil},
		{ask([]int{4}, []int{0, 4, 17}, []int{1}), table([]int{0, -6}, []int{7, -8}), nil},
		{ask(nil, []int{0, 1, 2}), ledger.Table{{Count: 4}}, ledger.Table{{Count: 1}}},
		{ask([]int{9}, []int{0, 9, 8}), table([]int{0, 5}, []int{7, -1}), nil},
		{ask([]int{8}, []int{0, 9, 8}), table([]int{0, -3}, []int{7, 7}), nil},
		{ask([]int{0}, []int{0, 0, 1}, []int{2, 1}), nil, nil},
	} {
		a, e := ledger.Answer(c.q, book)
		same(t, fmt.Sprint("Answer ", i), a, e, c.due, api.OK)
		if i == 0 {
			c.set = table([]int{0, 1}, []int{7, 1})
		}
		if c.set != nil {
			b, e := ledger.AnswerSet(c.q, book)
			same(t, fmt.Sprint("AnswerSet ", i), b, e, c.set, api.OK)
		}
	}
}

// TestBoundsOfAnswers: P9.2's ErrHuge, and results that are just not so.
func TestBoundsOfAnswers(t *testing.T) {
	over := func(head []int, tables int) ledger.Query {
		q := ledger.Query{Head: head}
		for i := range tables {
			q.Atoms = append(q.Atoms, ledger.Atom{Table: i, Terms: []int{i}})
		}
		return q
	}
	times := func(counts ...int) (book []ledger.Table) {
		for _, c := range counts {
			book = append(book, column(5, 1, c))
		}
		return book
	}
	and := func(book []ledger.Table, last ledger.Table) []ledger.Table { return append(book, last) }
	pm := func(count int) ledger.Table { return table([]int{1, count}, []int{2, -count}) }
	none := func(count int) ledger.Table { return ledger.Table{{Count: count}} }
	// products of three counts, twice: the sum is little, and one of the signs is that of the product that is larger
	twice := ask(nil, []int{0, 0}, []int{1, 0}, []int{2, 0})
	two := func(a, b, c, d, e, f int) []ledger.Table {
		return []ledger.Table{table([]int{1, a}, []int{2, d}), table([]int{1, b}, []int{2, e}), table([]int{1, c}, []int{2, f})}
	}
	few := ask([]int{0, 1}, []int{0, 0, 2}, []int{1, 1}, []int{2, 2, 3})
	marked := table([]int{-1, 1, 1})
	for i := range 68 {
		marked = append(marked, ledger.Entry{Row: []int{i, 0}, Count: 1})
	}
	for i, c := range []struct {
		q        ledger.Query
		book     []ledger.Table
		due, set ledger.Table
		e, f     api.Errno
	}{
		// 200000 valuations, and one more, whether they give one row or none
		{over(nil, 2), []ledger.Table{column(0, 400, 1), column(7, 500, 1)}, none(200000), none(1), api.OK, api.OK},
		{over(nil, 2), []ledger.Table{column(0, 489, 1), column(7, 409, 1)}, nil, nil, api.ErrHuge, api.ErrHuge},
		{over(nil, 3), []ledger.Table{column(0, 200, 1), column(7, 500, 1), pm(1)}, nil, none(1), api.OK, api.OK},
		{over(nil, 3), []ledger.Table{column(0, 334, 1), column(7, 300, 1), pm(1)}, nil, nil, api.ErrHuge, api.ErrHuge},
		{over(nil, 6), []ledger.Table{column(0, 2000, 1), column(0, 2000, 1), column(0, 2000, 1), column(0, 2000, 1), column(0, 2000, 1), column(0, 2000, -1)}, nil, nil, api.ErrHuge, api.ErrHuge},
		{over(nil, 6), []ledger.Table{column(0, 2000, 1), column(0, 2000, 1), column(0, 2000, 1), column(0, 2000, 1), column(0, 2000, 1), nil}, nil, nil, api.OK, api.OK},
		// products of 10^12 and above, whose sums are 0
		{over(nil, 2), and(times(1000000), pm(1000000)), nil, none(1), api.OK, api.OK},
		{over(nil, 2), and(times(-1000000), pm(1000000)), nil, none(1), api.OK, api.OK},
		{over(nil, 3), and(times(999999, -101), pm(9901)), nil, none(1), api.OK, api.OK},
		{over(nil, 3), and(times(10132, 197), pm(501001)), nil, none(1), api.ErrHuge, api.OK},
		{over(nil, 3), and(times(10132, -197), pm(501001)), nil, none(1), api.ErrHuge, api.OK},
		{over(nil, 4), and(times(-1000000, -1, 1000000), pm(1)), nil, none(1), api.OK, api.OK},
		{over(nil, 4), and(times(1000000, 1, 1000000), pm(2)), nil, none(1), api.ErrHuge, api.OK},
		{over(nil, 4), and(times(65536, 65536, 65536), pm(65536)), nil, none(1), api.ErrHuge, api.OK},
		{over(nil, 6), and(times(1000000, 1000000, -1000000, 1000000, 1000000), pm(1000000)), nil, none(1), api.ErrHuge, api.OK},
		{over(nil, 6), and(times(524288, 524288, 524288, 524288, 524288), pm(524288)), nil, none(1), api.ErrHuge, api.OK},
		{over(nil, 4), times(65536, -65536, 65536, 65536), nil, none(1), api.ErrHuge, api.OK},
		{over(nil, 4), times(65536, 65536, 65536, 65536), nil, none(1), api.ErrHuge, api.OK},
		{twice, two(10132, 197, 501001, 1000000, 1000000, -1), nil, none(1), api.ErrHuge, api.OK},
		{twice, two(10132, 197, -501001, 1000000, 1000000, 1), nil, none(1), api.ErrHuge, api.OK},
		{twice, two(999999, 101, 9901, 1000000, 1000000, -1), none(-1), none(1), api.OK, api.OK},
		{twice, two(-999999, 101, 9901, 1000000, 1000000, 1), none(1), none(1), api.OK, api.OK},
		// results whose counts are 10^6, and beyond
		{over([]int{0}, 1), times(1000000), times(1000000)[0], times(1)[0], api.OK, api.OK},
		{over([]int{0}, 2), times(-1000, 1000), times(-1000000)[0], times(1)[0], api.OK, api.OK},
		{over([]int{0}, 2), times(101, 9901), nil, times(1)[0], api.ErrHuge, api.OK},
		{over([]int{1}, 2), times(-101, 9901), nil, times(1)[0], api.ErrHuge, api.OK},
		{over([]int{0}, 2), and(times(500000), column(1, 2, 1)), times(1000000)[0], times(1)[0], api.OK, api.OK},
		{over([]int{0}, 2), and(times(500000), table([]int{1, 1}, []int{2, 2})), nil, times(1)[0], api.ErrHuge, api.OK},
		{over([]int{0}, 2), and(times(1000000), table([]int{1, -1}, []int{2, 2})), times(1000000)[0], times(1)[0], api.OK, api.OK},
		{over([]int{0}, 2), and(times(1000000), table([]int{1, -1}, []int{2, 2}, []int{3, -2})), times(-1000000)[0], times(1)[0], api.OK, api.OK},
		{over([]int{0}, 2), and(times(-1000000), table([]int{1, 1}, []int{2, 1})), nil, times(1)[0], api.ErrHuge, api.OK},
		{over([]int{0}, 2), []ledger.Table{table([]int{1, 1}, []int{2, 101}), column(3, 1, 9901)}, nil, column(1, 2, 1), api.ErrHuge, api.OK},
		// 2000 rows and 2001, also if counts cancel
		{over([]int{0, 1}, 2), []ledger.Table{column(0, 40, 1), column(0, 50, 1)}, first(40, 50), first(40, 50), api.OK, api.OK},
		{over([]int{0, 1}, 2), []ledger.Table{column(0, 69, 1), column(0, 29, 1)}, nil, nil, api.ErrHuge, api.ErrHuge},
		{over([]int{0}, 2), []ledger.Table{column(0, 2000, 1), column(0, 100, 1)}, column(0, 2000, 100), column(0, 2000, 1), api.OK, api.OK},
		{over([]int{0, 1}, 3), []ledger.Table{column(0, 69, 1), column(0, 29, 1), pm(1)}, nil, nil, api.OK, api.ErrHuge},
		{few, []ledger.Table{marked, column(0, 29, 1), table([]int{0, 0, 1}, []int{1, 0, 1}, []int{1, 1, -1})}, first(68, 29), nil, api.OK, api.ErrHuge},
	} {
		a, e := ledger.Answer(c.q, c.book)
		same(t, fmt.Sprint("Answer ", i), a, e, c.due, c.e)
		a, e = ledger.AnswerSet(c.q, c.book)
		same(t, fmt.Sprint("AnswerSet ", i), a, e, c.set, c.f)
		v, e := ledger.Open(c.q, c.book)
		same(t, fmt.Sprint("Open ", i), v.Rows(), e, c.due, c.e)
	}
}

// first returns the table of all rows of two numbers below n and m.
func first(n, m int) ledger.Table {
	var t ledger.Table
	for i := range n {
		for j := range m {
			t = append(t, ledger.Entry{Row: []int{i, j}, Count: 1})
		}
	}
	return t
}

// graph returns a table of so many pairs of numbers below n.
func (m *maker) graph(n, size int) ledger.Table {
	var t ledger.Table
	for _, x := range m.Perm(n * n)[:size] {
		t = append(t, ledger.Entry{Row: []int{x / n, x % n}, Count: 1 + m.Intn(m.most)})
	}
	t, _ = inOrder(t)
	return t
}

// join finds what define does by trying entries for one atom after the other.
func join(q ledger.Query, book []ledger.Table) outcome {
	o := outcome{most: new(big.Int), rows: map[string][]int{}, sums: map[string]*big.Int{}}
	var try func(atoms []ledger.Atom, value [10]int, known [10]bool, product *big.Int)
	try = func(atoms []ledger.Atom, value [10]int, known [10]bool, product *big.Int) {
		if len(atoms) == 0 {
			o.add(q.Head, value, product)
			return
		}
		for _, e := range book[atoms[0].Table] {
			now, is, fits := value, known, true
			for i, term := range atoms[0].Terms {
				switch {
				case term >= 10:
					fits = fits && e.Row[i] == term-10
				case is[term]:
					fits = fits && e.Row[i] == now[term]
				default:
					now[term], is[term] = e.Row[i], true
				}
			}
			if fits {
				try(atoms[1:], now, is, new(big.Int).Mul(product, big.NewInt(int64(e.Count))))
			}
		}
	}
	try(q.Atoms, [10]int{}, [10]bool{}, big.NewInt(1))
	return o
}

// TestLargerAnswers: P9.2 for ways, rounds, stars and webs of more rows than the definition can go through.
func TestLargerAnswers(t *testing.T) {
	m := newMaker(4)
	for i := range 60 {
		g := []ledger.Table{m.graph(12+i%30, 60), m.graph(12, 40), m.table(3, 30)}
		for j, q := range []ledger.Query{
			ask([]int{0, 3}, []int{0, 0, 1}, []int{1, 1, 2}, []int{0, 2, 3}),
			ask([]int{0}, []int{0, 0, 1}, []int{0, 1, 2}, []int{0, 2, 0}),
			ask([]int{1}, []int{0, 0, 1}, []int{0, 1, 2}, []int{1, 2, 3}, []int{0, 3, 0}),
			ask([]int{0}, []int{0, 0, 1}, []int{0, 1, 2}, []int{1, 2, 3}, []int{0, 3, 4}, []int{1, 4, 0}),
			ask(nil, []int{0, 0, 1}, []int{0, 1, 2}, []int{1, 2, 3}, []int{0, 3, 4}, []int{0, 4, 5}, []int{1, 5, 0}),
			ask([]int{5, 4}, []int{0, 5, 4}, []int{0, 5, 3}, []int{0, 5, 2}, []int{0, 4, 3}, []int{0, 4, 2}, []int{0, 3, 2}),
			ask([]int{0}, []int{1, 0, 1}, []int{1, 0, 2}, []int{1, 3, 0}),
			ask([]int{1}, []int{0, 0, 1}, []int{0, 2, 3}, []int{2, 0, 2, 2}),
			ask([]int{9}, []int{2, 9, 8, 7}, []int{2, 7, 6, 9}, []int{2, 8, 6, 5}),
			ask([]int{0}, []int{1, 0, 0}, []int{0, 1, 2}, []int{0, 2, 1}),
			ask([]int{0, 2}, []int{0, 0, 1}, []int{0, 1, 0}, []int{0, 2, 3}, []int{0, 3, 2}),
		} {
			o := join(q, g)
			due, dueE := o.table()
			a, e := ledger.Answer(q, g)
			same(t, fmt.Sprint(i, " Answer ", j), a, e, due, dueE)
			due, dueE = o.set()
			a, e = ledger.AnswerSet(q, g)
			same(t, fmt.Sprint(i, " AnswerSet ", j), a, e, due, dueE)
		}
	}
}

// TestSums: P9.9: the result for the sum of two tables, in an atom that alone names them, is the sum of the results.
func TestSums(t *testing.T) {
	m := newMaker(5)
	for done := 0; done < 1500; {
		q, book := m.shop()
		at := q.Atoms[0].Table
		if slices.ContainsFunc(q.Atoms[1:], func(a ledger.Atom) bool { return a.Table == at }) {
			continue
		}
		done++
		more := slices.Clone(book)
		more[at] = m.table(len(q.Atoms[0].Terms), 6)
		all := slices.Clone(book)
		var e api.Errno
		if all[at], e = ledger.Plus(book[at], more[at]); e != api.OK {
			t.Fatalf("Plus: %d", e)
		}
		var results [3]ledger.Table
		for i, b := range [][]ledger.Table{book, more, all} {
			if results[i], e = ledger.Answer(q, b); e != api.OK {
				t.Fatalf("Answer(%v, %v): %d", q, b, e)
			}
		}
		due, e := ledger.Plus(results[0], results[1])
		same(t, fmt.Sprint(q, book, more), results[2], api.OK, due, e)
	}
}
