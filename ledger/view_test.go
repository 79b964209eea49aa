package ledger_test

import (
	"fmt"
	"slices"
	"testing"

	"minikin/api"
	"minikin/ledger"
)

// fits reports whether the atoms of q have as many terms as the rows of their tables.
func fits(q ledger.Query, book []ledger.Table) bool {
	return !slices.ContainsFunc(q.Atoms, func(a ledger.Atom) bool {
		t := book[a.Table]
		return len(t) > 0 && len(t[0].Row) != len(a.Terms)
	})
}

// changed returns what P9.3 says: the book and the result after a change, and the difference.
func changed(q ledger.Query, book []ledger.Table, at int, by ledger.Table) (next []ledger.Table, result, difference ledger.Table, e api.Errno) {
	if at < 0 || at >= len(book) {
		return nil, nil, nil, api.ErrArg
	}
	if len(by) > 0 && len(book[at]) > 0 && len(by[0].Row) != len(book[at][0].Row) {
		return nil, nil, nil, api.ErrShape
	}
	next = slices.Clone(book)
	if next[at], e = added(book[at], by, 1); e != api.OK {
		return nil, nil, nil, e
	}
	if !fits(q, book) || !fits(q, next) {
		return nil, nil, nil, api.ErrQuery
	}
	before, after := define(q, book), define(q, next)
	old, e := before.table()
	if e != api.OK {
		return nil, nil, nil, e
	}
	if result, e = after.table(); e != api.OK {
		return nil, nil, nil, e
	}
	if difference, e = added(result, old, -1); e != api.OK {
		return nil, nil, nil, e
	}
	return next, result, difference, api.OK
}

// TestViews: P9.3, P9.4 and P9.6 for lists of changes, of which some are refused, from the definition.
func TestViews(t *testing.T) {
	m := newMaker(6)
	seen := map[api.Errno]int{}
	for i := range 700 {
		m.most = []int{2, 40, 3000}[i%3]
		q, book := m.shop()
		first := define(q, book)
		rows, e := first.table()
		v, f := ledger.Open(q, book)
		if e != f || (v == nil) != (e != api.OK) {
			t.Fatalf("Open(%v, %v): %d, not %d", q, book, f, e)
		}
		total := rows
		for range 12 {
			at := m.Intn(len(book))
			by := m.change(book[at])
			if m.Intn(20) == 0 {
				at = []int{-1, len(book), len(book) + 5}[m.Intn(3)]
			}
			next, result, difference, e := changed(q, book, at, by)
			seen[e]++
			got, f := ledger.Change(q, book, at, by)
			if !same(t, fmt.Sprint("Change ", q, book, at, by), got, f, difference, e) {
				return
			}
			if v == nil {
				break
			}
			got, f = v.Apply(at, by)
			if !same(t, fmt.Sprint("Apply ", q, book, at, by), got, f, difference, e) {
				return
			}
			if e == api.OK {
				book, rows = next, result
				if total, e = ledger.Plus(total, difference); e != api.OK {
					t.Fatalf("Plus: %d", e)
				}
			}
			isView(t, v, book, rows)
			same(t, "together", total, api.OK, rows, api.OK)
		}
	}
	if seen[api.OK] < 3000 || seen[api.ErrArg] < 100 || seen[api.ErrShape] < 100 || seen[api.ErrQuery] < 50 || seen[api.ErrHuge] < 100 {
		t.Errorf("outcomes: %v", seen)
	}
}

// isView checks what a view shows.
func isView(t *testing.T, v *ledger.View, book []ledger.Table, rows ledger.Table) {
	t.Helper()
	same(t, "Rows", v.Rows(), api.OK, rows, api.OK)
	for i, x := range book {
		got, e := v.Book(i)
		same(t, fmt.Sprint("Book ", i), got, e, x, api.OK)
	}
	for _, i := range []int{-1, len(book), 1 << 40, -1 << 63} {
		got, e := v.Book(i)
		same(t, "Book", got, e, nil, api.ErrNone)
	}
}

// change returns something that may be added to a table: some of its rows go, others come.
func (m *maker) change(to ledger.Table) ledger.Table {
	width := m.Intn(4)
	if len(to) > 0 && m.Intn(12) > 0 {
		width = len(to[0].Row)
	}
	by := m.table(width, m.Intn(4))
	for _, e := range to {
		if width == len(e.Row) && m.Intn(3) == 0 {
			by, _ = added(by, ledger.Table{e}, -1)
		}
	}
	if m.Intn(12) == 0 && len(to) > 0 {
		by, _ = added(nil, to, -1)
	}
	return by
}

// TestOrders: P9.6: changes may come in any order.
func TestOrders(t *testing.T) {
	m := newMaker(7)
	m.most = 2
	for done := 0; done < 200; {
		q, book := m.shop()
		type change struct {
			at int
			by ledger.Table
		}
		var list []change
		for range 5 {
			at := m.Intn(len(book))
			if len(book[at]) > 0 {
				list = append(list, change{at, m.table(len(book[at][0].Row), 3)})
			}
		}
		var due string
		for i := range 4 {
			v, e := ledger.Open(q, book)
			for _, c := range list {
				if e == api.OK {
					_, e = v.Apply(c.at, c.by)
				}
			}
			if e == api.ErrHuge {
				break
			}
			if e != api.OK {
				t.Fatalf("%v, %v, %v: %d", q, book, list, e)
			}
			if i == 0 {
				due = show(v.Rows())
			}
			if got := show(v.Rows()); got != due {
				t.Fatalf("%v, %v, %v: %s, not %s", q, book, list, got, due)
			}
			m.Shuffle(len(list), func(i, j int) { list[i], list[j] = list[j], list[i] })
			done++
		}
	}
}

// TestErrorsOfChanges: P9.3's errors, and which of several is returned.
func TestErrorsOfChanges(t *testing.T) {
	q := ask([]int{0}, []int{0, 0, 1}, []int{1, 1})
	bad, wide := ask([]int{5}, []int{0, 0, 1}), ask(nil, []int{1, 0, 1})
	pairs, one := table([]int{1, 2, 1}, []int{3, 2, 1000000}), column(2, 1, 1)
	book := []ledger.Table{pairs, one, nil}
	many := []ledger.Table{column(0, 489, 1), column(0, 409, 1), column(0, 2000, 1), nil}
	cross := ask(nil, []int{0, 0}, []int{1, 1})
	more := table([]int{3, 2, 1})
	for i, c := range []struct {
		q    ledger.Query
		book []ledger.Table
		at   int
		by   ledger.Table
		due  api.Errno
	}{
		{q, book, -1, nil, api.ErrArg}, {q, book, 3, one, api.ErrArg}, {q, nil, 0, nil, api.ErrArg}, {q, book, 1 << 62, nil, api.ErrArg}, {q, book, -1 << 63, nil, api.ErrArg},
		{bad, book, 3, nil, api.ErrArg}, {ledger.Query{}, nil, 0, one, api.ErrArg}, {cross, many, 4, one, api.ErrArg},
		{q, book, 0, one, api.ErrShape}, {q, book, 1, more, api.ErrShape}, {q, book, 1, ledger.Table{{Count: 1}}, api.ErrShape},
		{bad, book, 0, one, api.ErrShape}, {cross, many, 2, more, api.ErrShape}, {wide, book, 1, more, api.ErrShape},
		{q, book, 0, more, api.ErrHuge}, {bad, book, 0, more, api.ErrHuge}, {q, book, 2, more, api.OK},
		{cross, many, 2, column(2000, 1, 1), api.ErrHuge}, {ledger.Query{}, many, 2, column(2000, 1, 1), api.ErrHuge},
		{bad, book, 0, nil, api.ErrQuery}, {ledger.Query{}, book, 0, nil, api.ErrQuery}, {wide, book, 0, nil, api.ErrQuery}, {bad, book, 2, more, api.ErrQuery},
		{wide, book, 1, column(2, 1, -1), api.ErrQuery}, // only the book before the change is not as the question asks
		{ask(nil, []int{2, 0}), book, 2, more, api.ErrQuery}, {ask(nil, []int{2, 0, 1}), book, 2, more, api.OK},
		{ask(nil, []int{2, 0}), book, 2, ledger.Table{{Count: 1}}, api.ErrQuery}, {ask(nil, []int{2}), book, 2, ledger.Table{{Count: 1}}, api.OK},
		{cross, many, 0, column(0, 10, -1), api.ErrHuge}, {cross, many, 3, column(0, 1, 1), api.ErrHuge}, {cross, many, 0, nil, api.ErrHuge}, // before the change there are too many
	} {
		got, e := ledger.Change(c.q, c.book, c.at, c.by)
		if e != c.due || e != api.OK && len(got) > 0 {
			t.Errorf("%d: %s, %d, not %d", i, show(got), e, c.due)
		}
		v, e := ledger.Open(c.q, c.book)
		if e != api.OK {
			continue
		}
		rows := v.Rows()
		got, e = v.Apply(c.at, c.by)
		if e != c.due || e != api.OK && len(got) > 0 {
			t.Errorf("%d: %s, %d, not %d", i, show(got), e, c.due)
		}
		if e != api.OK {
			isView(t, v, c.book, rows)
		}
	}
}

// TestBoundsOfChanges: P9.3's and P9.4's ErrHuge, and changes that are just not so.
func TestBoundsOfChanges(t *testing.T) {
	cross := func(head ...int) ledger.Query { return ask(head, []int{0, 0}, []int{1, 1}) }
	swap := func(n, size int) ledger.Table { return append(column(0, n, -1), column(size, n, 1)...) }
	square := ask([]int{0}, []int{0, 0}, []int{0, 1})
	for i, c := range []struct {
		q     ledger.Query
		one   ledger.Table
		other ledger.Table
		at    int
		by    ledger.Table
		due   string
		e     api.Errno
	}{
		// of 200000 valuations
		{cross(), column(0, 400, 1), column(0, 500, 1), 0, swap(1, 400), "", api.OK},
		{cross(), column(0, 400, 1), column(0, 500, 1), 0, swap(400, 400), "", api.OK},
		{cross(), column(0, 400, 1), column(0, 500, 1), 0, column(400, 1, 1), "", api.ErrHuge},
		{cross(), column(0, 400, 1), column(0, 500, 1), 0, column(0, 400, -1), "[]*-200000 ", api.OK},
		{cross(), column(0, 488, 1), column(0, 409, 1), 0, column(488, 1, 1), "", api.ErrHuge},
		{square, column(0, 447, 1), nil, 0, column(447, 1, 1), "", api.ErrHuge},
		{square, column(0, 447, 1), nil, 0, append(column(0, 1, -1), column(447, 1, 1)...), "[0]*-447 [447]*447 ", api.OK},
		// of products: -10^6 times 10^6, and 4 more than 10^12
		{cross(), table([]int{1, 1000000}, []int{2, -1000000}), column(0, 1, 999999), 1, column(0, 1, 1), "", api.OK},
		{ask(nil, []int{0, 0}, []int{1, 1}, []int{1, 11}), table([]int{1, 1000000}, []int{2, -1000000}), column(1, 1, 999), 1, column(1, 1, 1), "", api.OK},
		{ask(nil, []int{0, 0}, []int{1, 1}, []int{1, 11}), table([]int{1, 1000000}, []int{2, -1000000}), column(1, 1, 1000), 1, column(1, 1, 1), "", api.ErrHuge},
		{ask(nil, []int{0, 0}, []int{1, 1}, []int{1, 11}), table([]int{1, 1000000}, []int{2, -1000000}), column(1, 1, 1000), 1, column(1, 1, -2000), "", api.OK},
		// of counts of the result, and of the difference
		{cross(0), column(5, 1, 1000), column(0, 1, 999), 1, column(0, 1, 1), "[5]*1000 ", api.OK},
		{cross(0), column(5, 1, 1000), column(0, 1, 1000), 1, column(1, 1, 1), "", api.ErrHuge},
		{cross(0), column(5, 1, 500000), column(0, 1, 1), 1, column(0, 1, -2), "[5]*-1000000 ", api.OK},
		{cross(0), column(5, 1, 500001), column(0, 1, 1), 1, column(0, 1, -2), "", api.ErrHuge},
		{cross(0), column(5, 1, -500000), column(0, 1, 1), 1, column(0, 1, -2), "[5]*1000000 ", api.OK},
		{cross(0), column(5, 1, -500001), column(0, 1, 1), 1, column(0, 1, -2), "", api.ErrHuge},
		// of the rows of the result, and of the difference
		{cross(0, 1), column(0, 39, 1), column(0, 50, 1), 0, swap(1, 40), "", api.OK},
		{cross(0, 1), column(0, 39, 1), column(0, 50, 1), 0, column(39, 1, 1), "", api.OK},
		{cross(0, 1), column(0, 40, 1), column(0, 50, 1), 0, column(40, 1, 1), "", api.ErrHuge},
		{cross(0, 1), column(0, 40, 1), column(0, 50, 1), 0, swap(20, 40), "", api.OK},
		{cross(0, 1), column(0, 40, 1), column(0, 50, 1), 0, swap(21, 40), "", api.ErrHuge},
		{cross(0, 1), column(0, 40, 1), column(0, 50, 1), 0, column(0, 40, -1), "", api.OK},
	} {
		book := []ledger.Table{c.one, c.other}
		got, e := ledger.Change(c.q, book, c.at, c.by)
		if e != c.e || c.due != "" && show(got) != c.due || e != api.OK && len(got) > 0 {
			t.Errorf("%d: %s, %d, not %s, %d", i, show(got), e, c.due, c.e)
		}
		next := slices.Clone(book)
		next[c.at], _ = added(book[c.at], c.by, 1)
		before, e := ledger.Answer(c.q, book)
		if e != api.OK {
			t.Fatalf("%d: %d", i, e)
		}
		if c.e == api.OK {
			after, e := ledger.Answer(c.q, next)
			due, f := added(after, before, -1)
			same(t, fmt.Sprint("Change ", i), got, e, due, f)
		}
		v, _ := ledger.Open(c.q, book)
		again, f := v.Apply(c.at, c.by)
		same(t, fmt.Sprint("Apply ", i), again, f, got, c.e)
		if c.e == api.OK {
			book = next
			before, _ = ledger.Answer(c.q, next)
		}
		isView(t, v, book, before)
	}
}

// TestTurns: P9.4 for a table that becomes empty and then gets another width.
func TestTurns(t *testing.T) {
	one, pair := column(1, 1, 1), table([]int{1, 2, 1})
	off := column(1, 1, -1)
	for _, c := range []struct {
		q   ledger.Query
		due api.Errno
	}{
		{ask([]int{0}, []int{0, 0}), api.OK},
		{ask([]int{0}, []int{0, 0}, []int{1, 0}), api.ErrQuery},
		{ask([]int{0}, []int{0, 0}, []int{1, 0}, []int{1, 1}), api.ErrQuery},
	} {
		v, e := ledger.Open(c.q, []ledger.Table{one, one})
		if e != api.OK {
			t.Fatal(e)
		}
		rows := column(1, 1, 1)
		_, e = v.Apply(1, pair)
		same(t, "another width", nil, e, nil, api.ErrShape)
		_, e = v.Apply(1, off)
		if e != api.OK {
			t.Fatal(e)
		}
		if c.due != api.OK {
			rows = nil
		}
		isView(t, v, []ledger.Table{one, nil}, rows)
		got, e := v.Apply(1, pair)
		same(t, "another width", got, e, nil, c.due)
		if c.due == api.OK {
			isView(t, v, []ledger.Table{one, pair}, rows)
			_, e := v.Apply(1, one)
			same(t, "the width before", nil, e, nil, api.ErrShape)
			continue
		}
		isView(t, v, []ledger.Table{one, nil}, rows)
		got, e = v.Apply(1, one)
		same(t, "the width before", got, e, one, api.OK)
		isView(t, v, []ledger.Table{one, one}, one)
	}
}

// TestNilViews: P9.4 for a nil view, whatever the arguments are.
func TestNilViews(t *testing.T) {
	var v *ledger.View
	for _, by := range []ledger.Table{nil, column(0, 1, 1), column(0, 2001, 0), {{}}} {
		for _, at := range []int{-1, 0, 8} {
			got, e := v.Apply(at, by)
			same(t, "Apply", got, e, nil, api.ErrNil)
			got, e = v.Book(at)
			same(t, "Book", got, e, nil, api.ErrNil)
		}
	}
	if len(v.Rows()) > 0 {
		t.Errorf("%s", show(v.Rows()))
	}
}
