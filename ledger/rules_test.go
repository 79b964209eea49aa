package ledger_test

import (
	"math"
	"math/rand"
	"reflect"
	"slices"
	"testing"
	"time"

	"minikin/api"
	"minikin/ledger"
)

// results calls everything, and returns what it returned.
func results(p, q ledger.Query, book []ledger.Table, at int, by ledger.Table, widths, cover []int, rows [][]int) []any {
	var l []any
	add := func(x any, e api.Errno) { l = append(l, x, e) }
	add(ledger.Plus(by, by))
	add(ledger.Minus(by, nil))
	add(ledger.Plus(nil, by))
	add(ledger.Make(rows))
	add(ledger.Answer(q, book))
	add(ledger.AnswerSet(q, book))
	add(ledger.Change(q, book, at, by))
	v, e := ledger.Open(q, book)
	if v != nil {
		add(v.Rows(), e)
		add(v.Apply(at, by))
		add(v.Rows(), e)
		add(v.Book(at))
	}
	c, ok, e := ledger.Covers(p, q, widths)
	l = append(l, ok, ledger.IsCover(p, q, widths, cover), ledger.Check(by), ledger.CheckQuery(q, widths))
	add(c, e)
	frozen, row, e := ledger.Frozen(p, widths)
	add(frozen, e)
	add(row, e)
	add(ledger.Core(p, widths))
	return l
}

// spoil changes all numbers of a result.
func spoil(x any) {
	switch x := x.(type) {
	case []int:
		for i := range x {
			x[i] = -77
		}
	case ledger.Table:
		for i := range x {
			spoil(x[i].Row)
			x[i].Count = 77
		}
	case []ledger.Table:
		for i := range x {
			spoil(x[i])
			x[i] = nil
		}
	case ledger.Query:
		spoil(x.Head)
		for i := range x.Atoms {
			spoil(x.Atoms[i].Terms)
			x.Atoms[i].Table = 77
		}
	}
}

// within returns a list behind whose end there is more.
func within[T any](list []T, more T) []T {
	return append(slices.Clone(list), more, more)[:len(list)]
}

// hedged returns a copy of a question behind all ends of which there is more.
func hedged(q ledger.Query) ledger.Query {
	out := ledger.Query{Head: within(q.Head, 77), Atoms: within(q.Atoms, ledger.Atom{Table: -5})}
	for i := range out.Atoms {
		out.Atoms[i].Terms = within(out.Atoms[i].Terms, -77)
	}
	return out
}

// hedgedTable does so with a table.
func hedgedTable(t ledger.Table) ledger.Table {
	out := within(t, ledger.Entry{Count: 77})
	for i := range out {
		out[i].Row = within(out[i].Row, -77)
	}
	return out
}

// TestArguments: arguments are neither changed nor kept, what lies beyond their length is not read, and results are new memory (R4, R7).
func TestArguments(t *testing.T) {
	p := ask([]int{0, 1}, []int{0, 0, 1}, []int{1, 1}, []int{0, 0, 2}, []int{0, 10, 1})
	q := ask([]int{3, 4}, []int{0, 3, 4}, []int{1, 4}, []int{0, 10, 4})
	book := []ledger.Table{table([]int{0, 7, 2}, []int{5, 7, 1}, []int{8, 9, 3}), column(5, 5, 2), nil}
	by, widths, cover := table([]int{0, 7, -1}, []int{0, 8, 1}, []int{8, 9, -3}), []int{2, 1, 6}, []int{0, 0, 0, 0, 1, 0, 0, 0, 0, 0}
	rows := [][]int{{3, 4}, {1, 2}, {3, 4}}
	due := results(p, q, book, 0, by, widths, cover, rows)
	for _, x := range due {
		if e, ok := x.(api.Errno); ok && e != api.OK || x == false {
			t.Fatalf("%v", due)
		}
	}
	for range 2 {
		one, two := hedged(p), hedged(q)
		tables := within(book, ledger.Table{{}})
		for i := range tables {
			tables[i] = hedgedTable(tables[i])
		}
		list := within(rows, nil)
		for i := range list {
			list[i] = within(list[i], 77)
		}
		got := results(one, two, tables, 0, hedgedTable(by), within(widths, -1), within(cover, 7), list)
		if !reflect.DeepEqual(got, due) {
			t.Errorf("%v, not %v", got, due)
		}
		for _, x := range got {
			spoil(x)
		}
		if !reflect.DeepEqual(one, hedged(p)) || !reflect.DeepEqual(two, hedged(q)) || !reflect.DeepEqual(list, rows) || len(tables) != 3 {
			t.Error("arguments are changed")
		}
		for i := range tables {
			same(t, "arguments", tables[i], api.OK, book[i], api.OK)
			if all := tables[i][:len(tables[i])+2]; all[len(all)-1].Count != 77 {
				t.Error("what lies beyond a table is changed")
			}
		}
	}
}

// TestMemory: a view keeps none of the arguments, and shares no memory with its results (R4).
func TestMemory(t *testing.T) {
	q, book := ask([]int{0}, []int{0, 0, 1}, []int{1, 1}, []int{0, 0, 2}), []ledger.Table{table([]int{1, 5, 2}, []int{2, 5, 1}), column(5, 2, 3)}
	plain, given := hedged(q), []ledger.Table{book[0], hedgedTable(book[1])}
	given[0] = hedgedTable(book[0])
	v, e := ledger.Open(plain, given)
	if e != api.OK {
		t.Fatal(e)
	}
	spoil(plain)
	spoil(given)
	now, _ := ledger.Answer(q, book)
	for _, by := range []ledger.Table{table([]int{2, 5, -1}, []int{2, 6, 4}), table([]int{1, 7, 1}), table([]int{1, 5, -2})} {
		for range 2 {
			for i, x := range book {
				got, e := v.Book(i)
				same(t, "Book", got, e, x, api.OK)
				spoil(got)
			}
			rows := v.Rows()
			same(t, "Rows", rows, api.OK, now, api.OK)
			spoil(rows)
		}
		mine := hedgedTable(by)
		got, e := v.Apply(0, mine)
		spoil(mine)
		spoil(got)
		if e != api.OK {
			t.Fatal(e)
		}
		book[0], _ = added(book[0], by, 1)
		now, _ = ledger.Answer(q, book)
		same(t, "Rows", v.Rows(), api.OK, now, api.OK)
	}
}

// TestParts: no two slices of one result share memory, and none goes on in another (R4).
func TestParts(t *testing.T) {
	q := ask([]int{0, 1}, []int{0, 0, 1}, []int{0, 2, 1}, []int{0, 0, 1})
	book := []ledger.Table{first(3, 3)}
	v, _ := ledger.Open(q, book)
	frozen, row, _ := ledger.Frozen(q, []int{2, 2})
	least, _ := ledger.Core(ask([]int{0}, []int{0, 0, 1}, []int{0, 1, 0}), []int{2})
	var lists [][]int
	for _, x := range []ledger.Table{must(ledger.Answer(q, book)), must(ledger.AnswerSet(q, book)), v.Rows(), must(v.Book(0)), must(ledger.Plus(book[0], book[0])), must(ledger.Change(q, book, 0, book[0])), frozen[0]} {
		for _, e := range x {
			lists = append(lists, e.Row)
		}
	}
	lists = append(lists, row, least.Head, least.Atoms[0].Terms, least.Atoms[1].Terms)
	for i, l := range lists {
		spoil(append(l, 1, 2, 3)[:len(l)+3])
		for j := range l {
			l[j] = i
		}
	}
	for i, l := range lists {
		for _, x := range l {
			if x != i {
				t.Fatalf("%d: %v", i, l)
			}
		}
	}
}

func must(t ledger.Table, e api.Errno) ledger.Table {
	if e != api.OK {
		panic(e)
	}
	return t
}

// odd returns a number that is often out of range.
func odd(r *rand.Rand) int {
	return []int{0, 0, 1, 1, 2, 3, 9, 10, 11, -1, 6, 7, 1000000, 1000010, 1000011, -1000000, 2000000, math.MaxInt, math.MinInt}[r.Intn(19)]
}

func odds(r *rand.Rand, most int) []int {
	var l []int
	for range r.Intn(most + 1) {
		l = append(l, odd(r))
	}
	return l
}

func oddTable(r *rand.Rand) ledger.Table {
	var t ledger.Table
	width := r.Intn(3)
	for range r.Intn(4) {
		row := odds(r, 8)
		if r.Intn(3) > 0 {
			row = make([]int, width)
			for i := range row {
				row[i] = odd(r)
			}
		}
		t = append(t, ledger.Entry{Row: row, Count: odd(r)})
	}
	if r.Intn(2) == 0 {
		slices.SortFunc(t, func(a, b ledger.Entry) int { return slices.Compare(a.Row, b.Row) })
	}
	return t
}

func oddQuery(r *rand.Rand) ledger.Query {
	q := ledger.Query{Head: odds(r, 3)}
	for range r.Intn(4) {
		q.Atoms = append(q.Atoms, ledger.Atom{Table: odd(r), Terms: odds(r, 3)})
	}
	return q
}

// TestAnyArguments: P1 and R2 for arguments that need not be of any use.
func TestAnyArguments(t *testing.T) {
	r := rand.New(rand.NewSource(12))
	for range 20000 {
		p, q := oddQuery(r), oddQuery(r)
		var book []ledger.Table
		for range r.Intn(4) {
			book = append(book, oddTable(r))
		}
		var rows [][]int
		for range r.Intn(3) {
			rows = append(rows, odds(r, 7))
		}
		l := results(p, q, book, odd(r), oddTable(r), odds(r, 4), odds(r, 11), rows)
		for i, x := range l[1:] {
			if e, ok := x.(api.Errno); ok && e != api.OK && len(nonzero(l[i])) > 0 {
				t.Fatalf("%v, %v, %v: %v, %d", p, q, book, l[i], e)
			}
		}
	}
}

// nonzero returns a word for a result that is not the zero value.
func nonzero(x any) string {
	switch x := x.(type) {
	case ledger.Table:
		return "table"[:min(5, len(x))]
	case []ledger.Table:
		return "book"[:min(4, len(x))]
	case []int:
		return "list"[:min(4, len(x))]
	case ledger.Query:
		return "query"[:min(5, len(x.Head)+len(x.Atoms))]
	}
	return ""
}

// TestSlowQuestions: calls at the limits end in good time, also where few of many beginnings lead to a valuation.
func TestSlowQuestions(t *testing.T) {
	long := column(0, 2000, 1)
	chain, fan := ledger.Table{}, ledger.Table{}
	for i := range 2000 {
		chain = append(chain, ledger.Entry{Row: []int{i, i + 1}, Count: 1})
		fan = append(fan, ledger.Entry{Row: []int{0, i}, Count: 1})
	}
	book := []ledger.Table{long, chain, fan, column(5000, 3, 1)}
	start := time.Now()
	for i, c := range []struct {
		q    ledger.Query
		rows int
		e    api.Errno
	}{
		{ask([]int{0}, []int{0, 0}, []int{0, 1}, []int{0, 2}, []int{0, 3}, []int{0, 4}, []int{0, 5}), 0, api.ErrHuge},
		{ask([]int{0}, []int{0, 0}, []int{0, 1}, []int{0, 2}, []int{0, 3}, []int{0, 4}, []int{1, 5, 5}), 0, api.OK},
		{ask([]int{0}, []int{0, 0}, []int{0, 1}, []int{0, 2}, []int{1, 3, 4}, []int{1, 4, 5}, []int{1, 5, 3}), 0, api.OK},
		{ask([]int{0, 1}, []int{2, 0, 1}, []int{2, 0, 2}, []int{2, 0, 3}, []int{2, 0, 4}, []int{2, 0, 5}, []int{3, 5}), 0, api.OK},
		{ask([]int{0, 5}, []int{1, 0, 1}, []int{1, 1, 2}, []int{1, 2, 3}, []int{1, 3, 4}, []int{1, 4, 5}, []int{0, 5}), 1995, api.OK},
		{ask([]int{0}, []int{2, 0, 1}, []int{2, 0, 2}, []int{1, 1, 3}, []int{1, 3, 2}), 1, api.OK},
	} {
		a, e := ledger.Answer(c.q, book)
		b, f := ledger.AnswerSet(c.q, book)
		if len(a) != c.rows || len(b) != c.rows || e != c.e || f != c.e {
			t.Errorf("%d: %d rows, %d; %d rows, %d", i, len(a), e, len(b), f)
		}
	}
	v, e := ledger.Open(ask([]int{0, 2}, []int{1, 0, 1}, []int{1, 1, 2}), book)
	for i := range 100 {
		if e == api.OK {
			_, e = v.Apply(1, table([]int{i, i + 1, -1}, []int{i, i + 2, 1}))
		}
	}
	if e != api.OK || time.Since(start) > time.Minute {
		t.Errorf("%d after %v", e, time.Since(start))
	}
}
