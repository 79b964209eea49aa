package ledger_test

import (
	"fmt"
	"math/big"
	"math/rand"
	"slices"
	"testing"

	"minikin/api"
	"minikin/ledger"
)

// ask returns a question; each atom begins with its table.
func ask(head []int, atoms ...[]int) ledger.Query {
	q := ledger.Query{Head: head}
	for _, a := range atoms {
		q.Atoms = append(q.Atoms, ledger.Atom{Table: a[0], Terms: a[1:]})
	}
	return q
}

// table returns the table whose entries are given as their rows and then their counts.
func table(entries ...[]int) ledger.Table {
	var t ledger.Table
	for _, e := range entries {
		t = append(t, ledger.Entry{Row: e[:len(e)-1], Count: e[len(e)-1]})
	}
	return t
}

// column returns a table of one column, from a number on.
func column(from, size, count int) ledger.Table {
	var t ledger.Table
	for i := range size {
		t = append(t, ledger.Entry{Row: []int{from + i}, Count: count})
	}
	return t
}

// show writes a table, without a difference between what is nil and what is empty.
func show(t ledger.Table) string {
	out := ""
	for _, e := range t {
		out += fmt.Sprint(e.Row, "*", e.Count, " ")
	}
	return out
}

// occurring returns the variables that occur in q, rising.
func occurring(q ledger.Query) []int {
	var l []int
	for x := range 10 {
		if slices.ContainsFunc(q.Atoms, func(a ledger.Atom) bool { return slices.Contains(a.Terms, x) }) {
			l = append(l, x)
		}
	}
	return l
}

// lists calls visit with all lists of some length of the given numbers.
func lists(of []int, length int, visit func([]int)) {
	list := make([]int, length)
	var fill func(int)
	fill = func(i int) {
		if i == length {
			visit(list)
			return
		}
		for _, x := range of {
			list[i] = x
			fill(i + 1)
		}
	}
	fill(0)
}

// counts returns the count of each row of a table, by how the row is written.
func counts(t ledger.Table) map[string]int {
	m := map[string]int{}
	for _, e := range t {
		m[fmt.Sprint(e.Row)] += e.Count
	}
	return m
}

// outcome is what the definitions say of a question and a book: how many valuations make all atoms rows, the greatest product of counts in absolute value, and the sums of the products.
type outcome struct {
	number int
	most   *big.Int
	rows   map[string][]int
	sums   map[string]*big.Int
}

// define tries all valuations with the numbers that occur in the book. (With another number, an atom in which the variable occurs is no row.)
func define(q ledger.Query, book []ledger.Table) outcome {
	o := outcome{most: new(big.Int), rows: map[string][]int{}, sums: map[string]*big.Int{}}
	var numbers []int
	var tables []map[string]int
	for _, t := range book {
		for _, e := range t {
			numbers = append(numbers, e.Row...)
		}
		tables = append(tables, counts(t))
	}
	slices.Sort(numbers)
	numbers = slices.Compact(numbers)
	vars := occurring(q)
	lists(numbers, len(vars), func(list []int) {
		var value [10]int
		for i, x := range vars {
			value[x] = list[i]
		}
		product := big.NewInt(1)
		for _, a := range q.Atoms {
			row := make([]int, len(a.Terms))
			for i, term := range a.Terms {
				if row[i] = term - 10; term < 10 {
					row[i] = value[term]
				}
			}
			product.Mul(product, big.NewInt(int64(tables[a.Table][fmt.Sprint(row)])))
		}
		if product.Sign() != 0 {
			o.add(q.Head, value, product)
		}
	})
	return o
}

func (o *outcome) add(head []int, value [10]int, product *big.Int) {
	o.number++
	if product.CmpAbs(o.most) > 0 {
		o.most.Abs(product)
	}
	row := make([]int, len(head))
	for i, x := range head {
		row[i] = value[x]
	}
	key := fmt.Sprint(row)
	if o.sums[key] == nil {
		o.rows[key], o.sums[key] = row, new(big.Int)
	}
	o.sums[key].Add(o.sums[key], product)
}

// table returns the result, or ErrHuge.
func (o *outcome) table() (ledger.Table, api.Errno) {
	if o.number > 200000 || o.most.Cmp(big.NewInt(1e12)) > 0 {
		return nil, api.ErrHuge
	}
	var t ledger.Table
	for key, s := range o.sums {
		if s.Sign() == 0 {
			continue
		}
		if s.CmpAbs(big.NewInt(1e6)) > 0 {
			return nil, api.ErrHuge
		}
		t = append(t, ledger.Entry{Row: o.rows[key], Count: int(s.Int64())})
	}
	return inOrder(t)
}

// set returns the result as a set, or ErrHuge.
func (o *outcome) set() (ledger.Table, api.Errno) {
	if o.number > 200000 {
		return nil, api.ErrHuge
	}
	var t ledger.Table
	for _, r := range o.rows {
		t = append(t, ledger.Entry{Row: r, Count: 1})
	}
	return inOrder(t)
}

func inOrder(t ledger.Table) (ledger.Table, api.Errno) {
	slices.SortFunc(t, func(a, b ledger.Entry) int { return slices.Compare(a.Row, b.Row) })
	if len(t) > 2000 {
		return nil, api.ErrHuge
	}
	return t, api.OK
}

// added returns the sum of a and of b times a number, from its definition, or ErrHuge.
func added(a, b ledger.Table, times int) (ledger.Table, api.Errno) {
	m, rows := counts(a), map[string][]int{}
	for _, e := range b {
		m[fmt.Sprint(e.Row)] += times * e.Count
	}
	for _, e := range append(slices.Clone(a), b...) {
		rows[fmt.Sprint(e.Row)] = e.Row
	}
	var t ledger.Table
	for key, count := range m {
		if count < -1e6 || count > 1e6 {
			return nil, api.ErrHuge
		}
		if count != 0 {
			t = append(t, ledger.Entry{Row: rows[key], Count: count})
		}
	}
	return inOrder(t)
}

// same reports what is wrong with a result, which is to be another one.
func same(t *testing.T, what string, got ledger.Table, e api.Errno, due ledger.Table, dueE api.Errno) bool {
	t.Helper()
	if show(got) != show(due) || e != dueE {
		t.Errorf("%s: %s, %d, not %s, %d", what, show(got), e, show(due), dueE)
		return false
	}
	return true
}

// maker makes tables, books and questions at random.
type maker struct {
	*rand.Rand
	numbers []int // that rows have
	most    int   // of the absolute values of counts
}

func newMaker(seed int64) *maker {
	return &maker{Rand: rand.New(rand.NewSource(seed)), numbers: []int{-3, 0, 1, 1000000}, most: 3}
}

func (m *maker) table(width, size int) ledger.Table {
	t := ledger.Table{}
	for range size {
		row := make([]int, width)
		for i := range row {
			row[i] = m.numbers[m.Intn(len(m.numbers))]
		}
		count := 1 + m.Intn(m.most)
		if m.Intn(2) == 0 {
			count = -count
		}
		if !slices.ContainsFunc(t, func(e ledger.Entry) bool { return slices.Equal(e.Row, row) }) {
			t = append(t, ledger.Entry{Row: row, Count: count})
		}
	}
	t, _ = inOrder(t)
	return t
}

// question returns a question with so many variables at most for tables of these widths.
func (m *maker) question(widths []int, atoms, vars int) ledger.Query {
	names := m.Perm(10)[:vars]
	q := ledger.Query{}
	for range atoms {
		a := ledger.Atom{Table: m.Intn(len(widths))}
		for range widths[a.Table] {
			term := names[m.Intn(vars)]
			if m.Intn(8) == 0 {
				term = 10 + []int{0, 1, 1000000}[m.Intn(3)]
			}
			a.Terms = append(a.Terms, term)
		}
		q.Atoms = append(q.Atoms, a)
	}
	if l := occurring(q); len(l) > 0 {
		for range m.Intn(7) {
			q.Head = append(q.Head, l[m.Intn(len(l))])
		}
	}
	return q
}

// shop returns a question and a book for it.
func (m *maker) shop() (ledger.Query, []ledger.Table) {
	var widths []int
	var book []ledger.Table
	for range 1 + m.Intn(3) {
		w := m.Intn(7)
		if m.Intn(4) > 0 {
			w = 2
		}
		widths, book = append(widths, w), append(book, m.table(w, m.Intn(9)))
	}
	return m.question(widths, 1+m.Intn(6), 1+m.Intn(5)), book
}
