package ledger_test

import (
	"fmt"
	"math"
	"slices"
	"testing"

	"minikin/api"
	"minikin/ledger"
)

// noTables are data that are no tables, by their errors.
func noTables() map[api.Errno][]ledger.Table {
	late := column(0, 2000, 1)
	late[1999].Count = 0
	wrong := column(0, 2001, 0)
	return map[api.Errno][]ledger.Table{
		api.ErrLong: {column(0, 2001, 1), wrong, make(ledger.Table, 5000)},
		api.ErrTable: {
			table([]int{1, 0}), table([]int{1, 1000001}), table([]int{1, -1000001}), table([]int{1, math.MaxInt}), table([]int{1, math.MinInt}),
			table([]int{1, 2, 3, 4, 5, 6, 7, 1}), table(make([]int, 100)),
			table([]int{1, 1}, []int{1, 1}), table([]int{1, 1}, []int{1, -1}), table([]int{2, 1}, []int{1, 1}), table([]int{1, 2, 1}, []int{1, 1, 1}),
			table([]int{math.MaxInt, 1}, []int{math.MinInt, 1}), table([]int{0, 1}, []int{-1, 1}),
			table([]int{1, 1}, []int{1, 2, 1}), table([]int{1, 2, 1}, []int{3, 1}), table([]int{1}, []int{1, 1}), table([]int{1, 1}, []int{2, 1}, []int{3, 4, 1}),
			table([]int{1}, []int{1}), table([]int{1}, []int{2}), {{}}, {{Row: []int{1}}}, late,
		},
	}
}

// TestCheck: P9.1 for one table.
func TestCheck(t *testing.T) {
	for _, x := range []ledger.Table{
		nil, {}, {{Count: 1}}, {{Row: []int{}, Count: -1000000}},
		table([]int{5, 1000000}), table([]int{5, -1000000}), table([]int{5, -1}), table([]int{1, 2, 3, 4, 5, 6, 7}),
		table([]int{math.MinInt, 1}, []int{-1, 1}, []int{0, 1}, []int{math.MaxInt, 1}),
		table([]int{1, 2, 1}, []int{1, 3, 1}, []int{2, 0, 1}), table([]int{1, 1, 1, 1, 1, 1, 1}, []int{1, 1, 1, 1, 1, 2, 1}),
		column(7, 2000, 1), column(-5, 2000, -1000000),
	} {
		if e := ledger.Check(x); e != api.OK {
			t.Errorf("%s: %d", show(x[:min(len(x), 4)]), e)
		}
	}
	for due, list := range noTables() {
		for _, x := range list {
			if e := ledger.Check(x); e != due {
				t.Errorf("%s: %d, not %d", show(x[:min(len(x), 4)]), e, due)
			}
		}
	}
}

// TestNoTables: P9.1 for all functions that take tables: the first table that is none decides, whatever else is wrong.
func TestNoTables(t *testing.T) {
	good, bad := table([]int{1, 2, 1}), ask([]int{3}, []int{7, 0})
	q := ask([]int{0}, []int{0, 0, 1})
	for due, list := range noTables() {
		for _, x := range list {
			for other, others := range noTables() {
				y := others[0]
				a, e := ledger.Plus(x, y)
				b, f := ledger.Minus(x, y)
				if len(a) > 0 || len(b) > 0 || e != due || f != due {
					t.Errorf("%d, %d: %d, %d", due, other, e, f)
				}
			}
			for _, y := range []ledger.Table{nil, good, table([]int{1, 1})} {
				for _, pair := range [][2]ledger.Table{{x, y}, {y, x}} {
					a, e := ledger.Plus(pair[0], pair[1])
					b, f := ledger.Minus(pair[0], pair[1])
					if len(a) > 0 || len(b) > 0 || e != due || f != due {
						t.Errorf("%d: %d, %d", due, e, f)
					}
				}
			}
			for _, any := range []ledger.Query{q, bad, {}} {
				checkBooks(t, any, []ledger.Table{x}, due)
				checkBooks(t, any, []ledger.Table{good, x, good}, due)
				checkBooks(t, any, []ledger.Table{good, x, list[0], {{}}, column(0, 2001, 1)}, due)
				checkBooks(t, any, append([]ledger.Table{x}, make([]ledger.Table, 8)...), api.ErrLong)
				for _, at := range []int{0, -1, 9} {
					if a, e := ledger.Change(any, []ledger.Table{good}, at, x); len(a) > 0 || e != due {
						t.Errorf("Change: %s, %d, not %d", show(a), e, due)
					}
				}
			}
			v, e := ledger.Open(q, []ledger.Table{good})
			if e != api.OK {
				t.Fatal(e)
			}
			for _, at := range []int{0, -1, 9} {
				if a, e := v.Apply(at, x); len(a) > 0 || e != due {
					t.Errorf("Apply: %s, %d, not %d", show(a), e, due)
				}
			}
		}
	}
}

// checkBooks calls all functions with a book, which are to return an error.
func checkBooks(t *testing.T, q ledger.Query, book []ledger.Table, due api.Errno) {
	t.Helper()
	a, e := ledger.Answer(q, book)
	same(t, "Answer", a, e, nil, due)
	a, e = ledger.AnswerSet(q, book)
	same(t, "AnswerSet", a, e, nil, due)
	for _, by := range []ledger.Table{nil, {{}}} {
		for _, at := range []int{0, -1, 9} {
			a, e = ledger.Change(q, book, at, by)
			same(t, "Change", a, e, nil, due)
		}
	}
	if v, e := ledger.Open(q, book); v != nil || e != due {
		t.Errorf("Open: %v, %d, not %d", v, e, due)
	}
}

// TestBooks: P9.1's ErrLong for books of 9 tables, and not for those of 8.
func TestBooks(t *testing.T) {
	q := ask([]int{0}, []int{7, 0})
	book := make([]ledger.Table, 8)
	book[7] = column(3, 2, 5)
	a, e := ledger.Answer(q, book)
	same(t, "8 tables", a, e, book[7], api.OK)
	a, e = ledger.AnswerSet(q, book)
	same(t, "8 tables", a, e, column(3, 2, 1), api.OK)
	a, e = ledger.Change(q, book, 7, column(4, 2, 5))
	same(t, "8 tables", a, e, column(4, 2, 5), api.OK)
	checkBooks(t, q, append(book, nil), api.ErrLong)
	checkBooks(t, ledger.Query{}, append(book, ledger.Table{{}}), api.ErrLong)
	checkBooks(t, q, make([]ledger.Table, 100000), api.ErrLong)
}

// TestSumsOfTables: P9.1 for Plus and Minus, from the definition.
func TestSumsOfTables(t *testing.T) {
	m := newMaker(1)
	cancelled := 0
	for i := range 4000 {
		m.most = []int{1, 3, 600000, 1000000}[i%4]
		width := m.Intn(7)
		a, b := m.table(width, m.Intn(8)), m.table(width, m.Intn(8))
		if i%5 == 0 && len(a) > 0 {
			b = slices.Clone(a[m.Intn(len(a)):])
		}
		for times := -1; times <= 1; times += 2 {
			got, e := ledger.Plus(a, b)
			if times < 0 {
				got, e = ledger.Minus(a, b)
			}
			due, dueE := added(a, b, times)
			if !same(t, fmt.Sprint(a, times, b), got, e, due, dueE) {
				return
			}
			if len(due) < max(len(a), len(b)) {
				cancelled++
			}
			if ledger.Check(got) != api.OK {
				t.Errorf("%s is no table", show(got))
			}
		}
	}
	if cancelled < 100 {
		t.Errorf("only %d sums in which counts cancel", cancelled)
	}
}

// TestBoundsOfSums: P9.1's ErrShape and ErrHuge, and sums that are just not so.
func TestBoundsOfSums(t *testing.T) {
	one, two := table([]int{1, 1}), table([]int{1, 2, 1})
	none := ledger.Table{{Count: 1}}
	big, small := table([]int{1, 1000000}), table([]int{1, -1000000})
	half, all := column(0, 1000, 1), column(0, 2000, 1)
	for i, c := range []struct {
		a, b, plus, minus ledger.Table
		e, f              api.Errno
	}{
		{nil, nil, nil, nil, api.OK, api.OK},
		{one, nil, one, one, api.OK, api.OK},
		{nil, two, two, table([]int{1, 2, -1}), api.OK, api.OK},
		{none, nil, none, none, api.OK, api.OK},
		{none, none, ledger.Table{{Count: 2}}, nil, api.OK, api.OK},
		{one, two, nil, nil, api.ErrShape, api.ErrShape},
		{two, one, nil, nil, api.ErrShape, api.ErrShape},
		{none, one, nil, nil, api.ErrShape, api.ErrShape},
		{column(0, 2000, 1000000), table([]int{0, 0, 1}), nil, nil, api.ErrShape, api.ErrShape},
		{big, one, nil, table([]int{1, 999999}), api.ErrHuge, api.OK},
		{small, one, table([]int{1, -999999}), nil, api.OK, api.ErrHuge},
		{big, small, nil, nil, api.OK, api.ErrHuge},
		{small, small, nil, nil, api.ErrHuge, api.OK},
		{table([]int{1, 999999}), one, big, table([]int{1, 999998}), api.OK, api.OK},
		{table([]int{1, -999999}), one, table([]int{1, -999998}), small, api.OK, api.OK},
		{half, column(1000, 1000, 1), all, append(slices.Clone(half), column(1000, 1000, -1)...), api.OK, api.OK},
		{half, column(1000, 1001, 1), nil, nil, api.ErrHuge, api.ErrHuge},
		{half, column(999, 1001, 1), append(append(column(0, 999, 1), table([]int{999, 2})...), column(1000, 1000, 1)...), append(column(0, 999, 1), column(1000, 1000, -1)...), api.OK, api.OK},
		{all, all, column(0, 2000, 2), nil, api.OK, api.OK},
		{all, column(2000, 1, 1), nil, nil, api.ErrHuge, api.ErrHuge},
		{all, column(-1, 1, 1), nil, nil, api.ErrHuge, api.ErrHuge},
		{all, column(-1, 2, -1), append(column(-1, 1, -1), column(1, 1999, 1)...), nil, api.OK, api.ErrHuge},
		{all, column(1999, 2, 1), nil, append(column(0, 1999, 1), column(2000, 1, -1)...), api.ErrHuge, api.OK},
	} {
		got, e := ledger.Plus(c.a, c.b)
		same(t, fmt.Sprint("Plus ", i), got, e, c.plus, c.e)
		got, e = ledger.Minus(c.a, c.b)
		same(t, fmt.Sprint("Minus ", i), got, e, c.minus, c.f)
	}
}

// TestMake: P9.1 for Make.
func TestMake(t *testing.T) {
	same6 := make([][]int, 2000)
	for i := range same6 {
		same6[i] = []int{i % 3, 0, 0, 0, 0, -i % 2}
	}
	for i, c := range []struct {
		rows [][]int
		due  ledger.Table
		e    api.Errno
	}{
		{nil, nil, api.OK},
		{[][]int{{1, 5}, {2, 5}, {1, 5}}, table([]int{1, 5, 2}, []int{2, 5, 1}), api.OK},
		{[][]int{{3}, {-1}, {math.MaxInt}, {math.MinInt}, {3}, {3}}, table([]int{math.MinInt, 1}, []int{-1, 1}, []int{3, 3}, []int{math.MaxInt, 1}), api.OK},
		{[][]int{{}, nil, {}}, ledger.Table{{Count: 3}}, api.OK},
		{make([][]int, 2000), ledger.Table{{Count: 2000}}, api.OK},
		{same6, table([]int{0, 0, 0, 0, 0, -1, 333}, []int{0, 0, 0, 0, 0, 0, 334}, []int{1, 0, 0, 0, 0, -1, 334}, []int{1, 0, 0, 0, 0, 0, 333}, []int{2, 0, 0, 0, 0, -1, 333}, []int{2, 0, 0, 0, 0, 0, 333}), api.OK},
		{make([][]int, 2001), nil, api.ErrLong},
		{append([][]int{{1, 2, 3, 4, 5, 6, 7}, {1}}, make([][]int, 2000)...), nil, api.ErrLong},
		{[][]int{{1, 2, 3, 4, 5, 6, 7}}, nil, api.ErrTable},
		{[][]int{make([]int, 1000)}, nil, api.ErrTable},
		{[][]int{{1}, {1, 2}}, nil, api.ErrTable},
		{[][]int{{1, 2}, {1}}, nil, api.ErrTable},
		{[][]int{{}, {1}}, nil, api.ErrTable},
		{[][]int{{1}, {1}, {}}, nil, api.ErrTable},
		{[][]int{{1, 2, 3, 4, 5, 6}, {1, 2, 3, 4, 5, 6, 7}}, nil, api.ErrTable},
	} {
		got, e := ledger.Make(c.rows)
		same(t, fmt.Sprint("Make ", i), got, e, c.due, c.e)
	}
	m := newMaker(2)
	for range 500 {
		width, rows := m.Intn(7), [][]int(nil)
		for _, e := range m.table(width, 6) {
			for range 1 + m.Intn(3) {
				rows = append(rows, e.Row)
			}
		}
		m.Shuffle(len(rows), func(i, j int) { rows[i], rows[j] = rows[j], rows[i] })
		var due ledger.Table
		for _, r := range rows {
			due, _ = added(due, ledger.Table{{Row: r, Count: 1}}, 1)
		}
		got, e := ledger.Make(rows)
		same(t, fmt.Sprint(rows), got, e, due, api.OK)
	}
}
