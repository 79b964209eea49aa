package ledger_test

import (
	"fmt"
	"math"
	"slices"
	"testing"

	"minikin/api"
	"minikin/ledger"
)

// put returns terms with each variable replaced by its term.
func put(terms, cover []int) []int {
	out := slices.Clone(terms)
	for i, term := range terms {
		if term < 10 {
			out[i] = cover[term]
		}
	}
	return out
}

// isCover is the definition, for questions.
func isCover(p, q ledger.Query, cover []int) bool {
	if len(cover) != 10 || len(p.Head) != len(q.Head) {
		return false
	}
	for x, term := range cover {
		if !slices.Contains(occurring(q), x) && term != 0 {
			return false
		}
	}
	for _, a := range q.Atoms {
		if !slices.ContainsFunc(p.Atoms, func(b ledger.Atom) bool {
			return a.Table == b.Table && slices.Equal(put(a.Terms, cover), b.Terms)
		}) {
			return false
		}
	}
	return slices.Equal(put(q.Head, cover), p.Head)
}

// isCovered tries all lists of terms of p.
func isCovered(p, q ledger.Query) bool {
	var terms []int
	for _, a := range p.Atoms {
		terms = append(terms, a.Terms...)
	}
	slices.Sort(terms)
	vars, found := occurring(q), false
	lists(slices.Compact(terms), len(vars), func(list []int) {
		if found {
			return
		}
		cover := make([]int, 10)
		for i, x := range vars {
			cover[x] = list[i]
		}
		found = isCover(p, q, cover)
	})
	return found
}

// pair returns two questions for the same tables, whose Heads are often as long.
func (m *maker) pair() (p, q ledger.Query, widths []int) {
	for range 1 + m.Intn(2) {
		widths = append(widths, []int{2, 2, 2, 1, 3, 0}[m.Intn(6)])
	}
	p, q = m.question(widths, 1+m.Intn(6), 1+m.Intn(5)), m.question(widths, 1+m.Intn(4), 1+m.Intn(4))
	if l := occurring(q); len(l) > 0 && m.Intn(8) > 0 {
		q.Head = nil
		for range p.Head {
			q.Head = append(q.Head, l[m.Intn(len(l))])
		}
	}
	return p, q, widths
}

// TestCovers: P9.5 for Covers and IsCover, from the definition, and P9.7.
func TestCovers(t *testing.T) {
	m := newMaker(8)
	covered, shapes := 0, 0
	for range 6000 {
		p, q, widths := m.pair()
		c, ok, e := ledger.Covers(p, q, widths)
		if len(p.Head) != len(q.Head) {
			shapes++
			if len(c) > 0 || ok || e != api.ErrShape {
				t.Fatalf("Covers(%v, %v): %v, %v, %d", p, q, c, ok, e)
			}
			continue
		}
		if due := isCovered(p, q); ok != due || e != api.OK || ok != isCover(p, q, c) || !ok && len(c) > 0 {
			t.Fatalf("Covers(%v, %v): %v, %v, %d, not %v", p, q, c, ok, e, due)
		}
		book, row, e := ledger.Frozen(p, widths)
		set, f := ledger.AnswerSet(q, book)
		within := slices.ContainsFunc(set, func(x ledger.Entry) bool { return slices.Equal(x.Row, row) })
		if e != api.OK || f != api.OK || within != ok {
			t.Fatalf("%v, %v: %v of %s; %d, %d", p, q, row, show(set), e, f)
		}
		if ok {
			covered++
		} else {
			c = make([]int, 10)
		}
		for range 10 {
			if is := ledger.IsCover(p, q, widths, c); is != isCover(p, q, c) {
				t.Fatalf("IsCover(%v, %v, %v): %v", p, q, c, is)
			}
			c[m.Intn(10)] = []int{0, m.Intn(10), 10, 10 + m.Intn(2), -1, 1000010, math.MaxInt, math.MinInt}[m.Intn(8)]
		}
	}
	if covered < 500 || shapes < 100 {
		t.Errorf("%d covered, %d of other shapes", covered, shapes)
	}
}

// TestResultsOfCovered: what a cover is for: every result of p as a set is within that to q.
func TestResultsOfCovered(t *testing.T) {
	m := newMaker(9)
	for done := 0; done < 500; {
		p, q, widths := m.pair()
		if _, ok, _ := ledger.Covers(p, q, widths); !ok {
			continue
		}
		done++
		var book []ledger.Table
		for _, w := range widths {
			book = append(book, m.table(w, 12))
		}
		one, e := ledger.AnswerSet(p, book)
		two, f := ledger.AnswerSet(q, book)
		if e != api.OK || f != api.OK {
			t.Fatalf("%d, %d", e, f)
		}
		for _, x := range one {
			if !slices.ContainsFunc(two, func(y ledger.Entry) bool { return slices.Equal(x.Row, y.Row) }) {
				t.Fatalf("%v, %v: %v of %s is not in %s", p, q, x.Row, show(one), show(two))
			}
		}
	}
}

// TestIsCover: P9.5 for lists that are no covers, and questions that are none.
func TestIsCover(t *testing.T) {
	widths := []int{2, 1}
	p, q := ask([]int{0, 0}, []int{0, 0, 1}, []int{0, 1, 10}, []int{1, 1000010}), ask([]int{2, 3}, []int{0, 2, 4}, []int{0, 3, 4}, []int{1, 9})
	cover := func(more ...int) []int {
		return append([]int{0, 0, 0, 0, 1, 0, 0, 0, 0, 1000010}, more...)
	}
	with := func(at, term int) []int {
		c := cover()
		c[at] = term
		return c
	}
	if !ledger.IsCover(p, q, widths, cover()) {
		t.Error("no cover")
	}
	for _, c := range [][]int{
		nil, {}, cover(0), cover()[:9], make([]int, 10), make([]int, 100000),
		with(0, 1), with(1, 10), with(8, -1), with(7, math.MaxInt),
		with(2, 1), with(3, 1), with(4, 0), with(4, 10), with(9, 1000011), with(9, 9), with(9, math.MinInt), with(2, -1), with(4, math.MaxInt),
	} {
		if ledger.IsCover(p, q, widths, c) {
			t.Errorf("a cover: %v", c[:min(20, len(c))])
		}
	}
	for _, c := range []struct {
		p, q   ledger.Query
		widths []int
	}{
		{p, q, nil}, {p, q, []int{2}}, {p, q, []int{2, 2}}, {p, q, []int{2, 1, 7}}, {p, q, []int{2, 1, -1}}, {p, q, []int{2, 1, 0, 0, 0, 0, 0, 0, 0}},
		{ledger.Query{}, ledger.Query{}, widths}, {p, ledger.Query{Head: q.Head}, widths}, {ledger.Query{Head: p.Head}, q, widths},
		{ask([]int{0}, []int{0, 0, 1}, []int{1, 1000010}), q, widths}, {p, ask([]int{2}, atoms(q)...), widths}, {p, ask(nil, atoms(q)...), widths}, {p, ask([]int{2, 3, 3}, atoms(q)...), widths},
		{ask([]int{0, 0}, []int{0, 0, 1}, []int{1, 1}, []int{0, 5, 1000011}), q, widths},
	} {
		if ledger.IsCover(c.p, c.q, c.widths, cover()) || ledger.IsCover(c.p, c.q, c.widths, make([]int, 10)) {
			t.Errorf("a cover: %v, %v, %v", c.p, c.q, c.widths)
		}
	}
	for _, a := range [][]int{{0, 1, 1000011}, {0, 1}, {2}, {-1}, {1, -1}} {
		bad := ask(p.Head, append(atoms(p), a)...)
		if ledger.IsCover(bad, q, widths, cover()) {
			t.Errorf("a cover of no question: %v", a)
		}
	}
	many := ask(p.Head, append(atoms(p), atoms(p)...)...)
	if !ledger.IsCover(many, q, widths, cover()) || ledger.IsCover(ask(p.Head, append(atoms(many), []int{1, 10})...), q, widths, cover()) {
		t.Error("6 atoms, and 7")
	}
	nothing := ask(nil, []int{0})
	if !ledger.IsCover(nothing, nothing, []int{0}, make([]int, 10)) || ledger.IsCover(nothing, nothing, []int{0}, append(make([]int, 9), 1)) {
		t.Error("atoms without terms")
	}
}

// atoms returns the atoms of a question as ask takes them.
func atoms(q ledger.Query) [][]int {
	var l [][]int
	for _, a := range q.Atoms {
		l = append(l, append([]int{a.Table}, a.Terms...))
	}
	return l
}

// TestErrorsOfCovers: P9.5's errors, and which of several is returned.
func TestErrorsOfCovers(t *testing.T) {
	good, other := ask([]int{0}, []int{0, 0, 1}), ask(nil, []int{0, 0, 1})
	for i, c := range []struct {
		p, q   ledger.Query
		widths []int
		due    api.Errno
	}{
		{good, good, []int{2}, api.OK}, {good, other, []int{2}, api.ErrShape}, {other, good, []int{2}, api.ErrShape},
		{ledger.Query{}, good, []int{2}, api.ErrQuery}, {good, ledger.Query{}, []int{2}, api.ErrQuery}, {ledger.Query{}, other, []int{2}, api.ErrQuery}, {other, ask([]int{3}, []int{0, 0, 1}), []int{2}, api.ErrQuery},
		{good, other, []int{3}, api.ErrQuery}, {good, other, nil, api.ErrQuery},
		{good, other, []int{2, 7}, api.ErrArg}, {ledger.Query{}, ledger.Query{}, []int{-1}, api.ErrArg},
		{good, other, make([]int, 9), api.ErrLong}, {ledger.Query{}, ledger.Query{}, []int{9, 9, 9, 9, 9, 9, 9, 9, 9}, api.ErrLong},
	} {
		cover, ok, e := ledger.Covers(c.p, c.q, c.widths)
		if e != c.due || e != api.OK && (ok || len(cover) > 0) {
			t.Errorf("Covers %d: %v, %v, %d, not %d", i, cover, ok, e, c.due)
		}
		for _, x := range []ledger.Query{c.p, c.q} {
			due := ledger.CheckQuery(x, c.widths)
			book, row, e := ledger.Frozen(x, c.widths)
			if e != due || e != api.OK && len(book)+len(row) > 0 {
				t.Errorf("Frozen %d: %v, %v, %d, not %d", i, book, row, e, due)
			}
			core, e := ledger.Core(x, c.widths)
			if e != due || e != api.OK && len(core.Head)+len(core.Atoms) > 0 {
				t.Errorf("Core %d: %v, %d, not %d", i, core, e, due)
			}
		}
	}
}

// TestFrozen: P9.5 for Frozen.
func TestFrozen(t *testing.T) {
	for i, c := range []struct {
		p      ledger.Query
		widths []int
		book   []ledger.Table
		row    []int
	}{
		{ask([]int{9, 0, 9}, []int{0, 9, 10}, []int{0, 0, 1000010}, []int{0, 9, 10}, []int{2}), []int{2, 5, 0}, []ledger.Table{table([]int{2000000, 1000000, 1}, []int{2000009, 0, 1}), nil, {{Count: 1}}}, []int{2000009, 2000000, 2000009}},
		{ask(nil, []int{1, 12, 11, 10}), []int{0, 3}, []ledger.Table{nil, table([]int{2, 1, 0, 1})}, nil},
		{ask([]int{5, 4, 3, 2, 1, 0}, []int{7, 0, 1, 2, 3, 4, 5}), []int{0, 1, 2, 3, 4, 5, 6, 6}, []ledger.Table{nil, nil, nil, nil, nil, nil, nil, table([]int{2000000, 2000001, 2000002, 2000003, 2000004, 2000005, 1})}, []int{2000005, 2000004, 2000003, 2000002, 2000001, 2000000}},
		{ask([]int{1}, []int{0, 2}, []int{0, 1}, []int{0, 11}, []int{0, 10}), []int{1}, []ledger.Table{table([]int{0, 1}, []int{1, 1}, []int{2000001, 1}, []int{2000002, 1})}, []int{2000001}},
	} {
		book, row, e := ledger.Frozen(c.p, c.widths)
		if len(book) != len(c.book) || !slices.Equal(row, c.row) || e != api.OK {
			t.Fatalf("%d: %v, %v, %d", i, book, row, e)
		}
		for j := range book {
			same(t, fmt.Sprint(i, " table ", j), book[j], ledger.Check(book[j]), c.book[j], api.OK)
		}
	}
}

// core is the definition of Core.
func core(p ledger.Query) ledger.Query {
	left := slices.Clone(p.Atoms)
	for i := len(left) - 1; i >= 0; i-- {
		less := slices.Delete(slices.Clone(left), i, i+1)
		if len(less) > 0 && isCovered(ledger.Query{Head: p.Head, Atoms: less}, p) {
			left = less
		}
	}
	return ledger.Query{Head: p.Head, Atoms: left}
}

// TestCore: P9.5 for Core, from the definition, and P9.8: no choice of less atoms of p is enough.
func TestCore(t *testing.T) {
	m := newMaker(10)
	less, more := 0, 0
	for range 1000 {
		widths := []int{2, []int{0, 1, 2, 3}[m.Intn(4)]}
		p := m.question(widths, 1+m.Intn(6), 1+m.Intn(5))
		got, e := ledger.Core(p, widths)
		if due := core(p); fmt.Sprint(got) != fmt.Sprint(due) || e != api.OK {
			t.Fatalf("Core(%v): %v, %d, not %v", p, got, e, due)
		}
		_, one, e := ledger.Covers(got, p, widths)
		_, two, f := ledger.Covers(p, got, widths)
		if !one || !two || e != api.OK || f != api.OK {
			t.Fatalf("Core(%v): %v: %v, %v", p, got, one, two)
		}
		for chosen := 1; chosen < 1<<len(p.Atoms); chosen++ {
			some := ledger.Query{Head: p.Head}
			for i, a := range p.Atoms {
				if chosen>>i&1 == 1 {
					some.Atoms = append(some.Atoms, a)
				}
			}
			if _, ok, e := ledger.Covers(some, p, widths); ok && e == api.OK && len(some.Atoms) < len(got.Atoms) {
				t.Fatalf("Core(%v): %v, but %v is enough", p, got, some)
			}
		}
		if len(got.Atoms) < len(p.Atoms) {
			less++
		} else if len(p.Atoms) > 2 {
			more++
		}
	}
	if less < 200 || more < 100 {
		t.Errorf("%d with atoms that are not needed, %d without", less, more)
	}
}

// TestLeast: P9.8 against all questions of one or two atoms, for some p that need three.
func TestLeast(t *testing.T) {
	m := newMaker(11)
	var all [][]int
	lists([]int{0, 1, 2, 3, 10}, 2, func(l []int) { all = append(all, append([]int{0}, l...)) })
	for done := 0; done < 20; {
		p := m.question([]int{2}, 3, 3)
		p.Head = p.Head[:min(1, len(p.Head))]
		got, _ := ledger.Core(p, []int{2})
		if len(got.Atoms) < 3 {
			continue
		}
		done++
		for _, a := range all {
			for _, b := range all {
				for head := range 4 {
					q := ask([]int{head}[:len(p.Head)], a, b)
					_, one, e := ledger.Covers(p, q, []int{2})
					_, two, f := ledger.Covers(q, p, []int{2})
					if one && two && e == api.OK && f == api.OK {
						t.Fatalf("Core(%v): %v, but %v is as good", p, got, q)
					}
				}
			}
		}
	}
}

// TestCores: P9.5 where atoms can be left out only by turns, and where none or all but one can.
func TestCores(t *testing.T) {
	widths := []int{2, 1, 0}
	for _, c := range []struct{ p, due ledger.Query }{
		{ask([]int{0}, []int{0, 0, 1}, []int{0, 0, 2}), ask([]int{0}, []int{0, 0, 1})},
		{ask([]int{0}, []int{0, 0, 2}, []int{0, 0, 1}), ask([]int{0}, []int{0, 0, 2})},
		{ask([]int{0, 1}, []int{0, 0, 2}, []int{0, 0, 1}), ask([]int{0, 1}, []int{0, 0, 1})},
		{ask([]int{1, 2}, []int{0, 0, 2}, []int{0, 0, 1}), ask([]int{1, 2}, []int{0, 0, 2}, []int{0, 0, 1})},
		{ask(nil, []int{0, 0, 1}, []int{0, 1, 2}, []int{0, 2, 3}), ask(nil, []int{0, 0, 1}, []int{0, 1, 2}, []int{0, 2, 3})},
		{ask(nil, []int{0, 0, 1}, []int{0, 1, 0}, []int{0, 2, 3}, []int{0, 3, 2}), ask(nil, []int{0, 0, 1}, []int{0, 1, 0})},
		{ask([]int{3}, []int{0, 0, 1}, []int{0, 1, 0}, []int{0, 2, 3}, []int{0, 3, 2}), ask([]int{3}, []int{0, 2, 3}, []int{0, 3, 2})},
		{ask(nil, []int{0, 0, 1}, []int{0, 1, 2}, []int{0, 5, 5}, []int{1, 5}), ask(nil, []int{0, 5, 5}, []int{1, 5})},
		{ask(nil, []int{0, 0, 10}, []int{0, 0, 1}, []int{0, 2, 10}, []int{0, 3, 11}), ask(nil, []int{0, 0, 10}, []int{0, 3, 11})},
		{ask([]int{4, 4}, []int{0, 4, 4}, []int{0, 4, 4}, []int{0, 4, 4}, []int{0, 4, 4}, []int{0, 4, 4}, []int{0, 4, 4}), ask([]int{4, 4}, []int{0, 4, 4})},
		{ask(nil, []int{2}, []int{2}, []int{1, 3}, []int{1, 10}, []int{1, 11}), ask(nil, []int{2}, []int{1, 10}, []int{1, 11})},
		{ask(nil, []int{2}), ask(nil, []int{2})},
		{ask(nil, []int{1, 17}, []int{1, 17}), ask(nil, []int{1, 17})},
	} {
		got, e := ledger.Core(c.p, widths)
		if fmt.Sprint(got) != fmt.Sprint(c.due) || e != api.OK {
			t.Errorf("Core(%v): %v, %d, not %v", c.p, got, e, c.due)
		}
	}
}
