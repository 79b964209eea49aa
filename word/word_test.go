package word_test

import (
	"fmt"
	"math"
	"math/rand"
	"reflect"
	"slices"
	"strings"
	"testing"

	"minikin/api"
	"minikin/word"
)

var (
	even = word.Auto{Letters: 2, Next: [][]int{{1, 0}, {0, 1}}, Good: []bool{true, false}}
	ends = word.Auto{Letters: 2, Next: [][]int{{1, 0}, {1, 2}, {1, 0}}, Good: []bool{false, false, true}}
	none = word.Auto{Letters: 2, Next: [][]int{{0, 0}}, Good: []bool{false}}
	all  = word.Auto{Letters: 2, Next: [][]int{{0, 0}}, Good: []bool{true}}
)

// cycle returns an automaton with one letter that accepts the lengths that are multiples of n.
func cycle(n int) word.Auto {
	a := word.Auto{Letters: 1}
	for i := range n {
		a.Next = append(a.Next, []int{(i + 1) % n})
		a.Good = append(a.Good, i == 0)
	}
	return a
}

// lengths returns an automaton that accepts the words of the lengths, with so many letters.
func lengths(letters int, good ...int) word.Auto {
	a := word.Auto{Letters: letters}
	n := slices.Max(good) + 2
	for i := range n {
		a.Next = append(a.Next, slices.Repeat([]int{min(i+1, n-1)}, letters))
		a.Good = append(a.Good, slices.Contains(good, i))
	}
	return a
}

// nth returns an automaton of two letters that accepts the words whose letter number n is a, counted from 1.
func nth(n int) word.Auto {
	a := word.Auto{Letters: 2}
	for i := range n {
		next := []int{i + 1, i + 1}
		if i == n-1 {
			next = []int{n, n + 1}
		}
		a.Next = append(a.Next, next)
		a.Good = append(a.Good, false)
	}
	a.Next = append(a.Next, []int{n, n}, []int{n + 1, n + 1})
	a.Good = append(a.Good, true, false)
	return a
}

// random returns an automaton with random steps.
func random(r *rand.Rand, states, letters int) word.Auto {
	a := word.Auto{Letters: letters}
	good := []float64{0.1, 0.5, 0.9}[r.Intn(3)]
	for range states {
		row := make([]int, letters)
		for x := range row {
			row[x] = r.Intn(states)
		}
		a.Next = append(a.Next, row)
		a.Good = append(a.Good, r.Float64() < good)
	}
	return a
}

// upTo returns all words of at most n letters, in their order.
func upTo(letters, n int) []string {
	out := []string{""}
	for i := 0; i < len(out); i++ {
		if len(out[i]) < n {
			for x := range letters {
				out = append(out, out[i]+string(rune('a'+x)))
			}
		}
	}
	return out
}

// accepts goes through a by the definition.
func accepts(a word.Auto, w string) bool {
	s := 0
	for _, c := range w {
		s = a.Next[s][c-'a']
	}
	return a.Good[s]
}

func copied(a word.Auto) word.Auto {
	out := word.Auto{Letters: a.Letters, Good: slices.Clone(a.Good)}
	for _, row := range a.Next {
		out.Next = append(out.Next, slices.Clone(row))
	}
	return out
}

func TestCheck(t *testing.T) {
	ok := func() word.Auto { return copied(even) }
	with := func(change func(a *word.Auto)) word.Auto {
		a := ok()
		change(&a)
		return a
	}
	for i, c := range []struct {
		a    word.Auto
		want api.Errno
	}{
		{ok(), api.OK},
		{cycle(1), api.OK},
		{cycle(64), api.OK},
		{cycle(65), api.ErrAuto},
		{lengths(4, 62), api.OK},
		{lengths(4, 63), api.ErrAuto},
		{lengths(5, 3), api.ErrArg},
		{word.Auto{}, api.ErrArg},
		{with(func(a *word.Auto) { a.Letters = 0 }), api.ErrArg},
		{with(func(a *word.Auto) { a.Letters = -1 }), api.ErrArg},
		{with(func(a *word.Auto) { a.Letters = math.MinInt }), api.ErrArg},
		{with(func(a *word.Auto) { a.Letters = math.MaxInt }), api.ErrArg},
		{with(func(a *word.Auto) { a.Letters = 5; a.Next = nil }), api.ErrArg},
		{with(func(a *word.Auto) { a.Letters = 1 }), api.ErrAuto},
		{with(func(a *word.Auto) { a.Letters = 3 }), api.ErrAuto},
		{with(func(a *word.Auto) { a.Next, a.Good = nil, nil }), api.ErrAuto},
		{with(func(a *word.Auto) { a.Next = nil }), api.ErrAuto},
		{with(func(a *word.Auto) { a.Good = nil }), api.ErrAuto},
		{with(func(a *word.Auto) { a.Good = a.Good[:1] }), api.ErrAuto},
		{with(func(a *word.Auto) { a.Good = append(a.Good, true) }), api.ErrAuto},
		{with(func(a *word.Auto) { a.Next[1] = a.Next[1][:1] }), api.ErrAuto},
		{with(func(a *word.Auto) { a.Next[0] = append(a.Next[0], 0) }), api.ErrAuto},
		{with(func(a *word.Auto) { a.Next[1] = nil }), api.ErrAuto},
		{with(func(a *word.Auto) { a.Next[1][1] = 2 }), api.ErrAuto},
		{with(func(a *word.Auto) { a.Next[1][1] = -1 }), api.ErrAuto},
		{with(func(a *word.Auto) { a.Next[1][0] = math.MaxInt }), api.ErrAuto},
		{with(func(a *word.Auto) { a.Next[0][0] = math.MinInt }), api.ErrAuto},
	} {
		if e := word.Check(c.a); e != c.want {
			t.Errorf("Check %d: %d, want %d", i, e, c.want)
		}
	}
}

// calls are the calls that take automata, with the results next to the error; those with two use the second one.
var calls = []struct {
	name string
	two  bool
	call func(a, b word.Auto) (api.Errno, []any)
}{
	{"Accepts", false, func(a, b word.Auto) (api.Errno, []any) { r, e := word.Accepts(a, "x"); return e, []any{r} }},
	{"Least", false, func(a, b word.Auto) (api.Errno, []any) { r, e := word.Least(a); return e, []any{r} }},
	{"Differ", true, func(a, b word.Auto) (api.Errno, []any) { r, s, e := word.Differ(a, b); return e, []any{r, s} }},
	{"First", false, func(a, b word.Auto) (api.Errno, []any) { r, e := word.First(a); return e, []any{r} }},
	{"Not", false, func(a, b word.Auto) (api.Errno, []any) { r, e := word.Not(a); return e, []any{r} }},
	{"Both", true, func(a, b word.Auto) (api.Errno, []any) { r, e := word.Both(a, b); return e, []any{r} }},
	{"Either", true, func(a, b word.Auto) (api.Errno, []any) { r, e := word.Either(a, b); return e, []any{r} }},
	{"Follow", true, func(a, b word.Auto) (api.Errno, []any) { r, e := word.Follow(a, b); return e, []any{r} }},
	{"Repeat", false, func(a, b word.Auto) (api.Errno, []any) { r, e := word.Repeat(a); return e, []any{r} }},
	{"Reverse", false, func(a, b word.Auto) (api.Errno, []any) { r, e := word.Reverse(a); return e, []any{r} }},
	{"Count", false, func(a, b word.Auto) (api.Errno, []any) { r, e := word.Count(a, -1); return e, []any{r} }},
	{"Words", false, func(a, b word.Auto) (api.Errno, []any) { r, e := word.Words(a, 0); return e, []any{r} }},
	{"Classes", false, func(a, b word.Auto) (api.Errno, []any) { r, e := word.Classes(a); return e, []any{r} }},
	{"Part", false, func(a, b word.Auto) (api.Errno, []any) { r, s, e := word.Part(a, "x", "x"); return e, []any{r, s} }},
	{"Monoid", false, func(a, b word.Auto) (api.Errno, []any) { r, e := word.Monoid(a); return e, []any{r} }},
	{"Group", false, func(a, b word.Auto) (api.Errno, []any) { r, s, u, e := word.Group(a); return e, []any{r, s, u} }},
}

func TestAutomataFirst(t *testing.T) {
	noLetters := word.Auto{Letters: 7, Next: [][]int{{0}}, Good: []bool{true}}
	ragged := word.Auto{Letters: 2, Next: [][]int{{0, 0}, {1}}, Good: []bool{true, true}}
	one := cycle(3)
	for _, c := range calls {
		fails := func(a, b word.Auto, want api.Errno) {
			t.Helper()
			e, results := c.call(a, b)
			if e != want {
				t.Errorf("%s: %d, want %d", c.name, e, want)
			}
			for _, r := range results {
				if v := reflect.ValueOf(r); !v.IsZero() {
					t.Errorf("%s: %v next to %d", c.name, r, e)
				}
			}
		}
		fails(noLetters, even, api.ErrArg)
		fails(ragged, even, api.ErrAuto)
		if c.two {
			fails(even, noLetters, api.ErrArg)
			fails(even, ragged, api.ErrAuto)
			fails(ragged, noLetters, api.ErrAuto)
			fails(noLetters, ragged, api.ErrArg)
			fails(even, one, api.ErrArg)
			fails(one, ragged, api.ErrAuto)
			fails(one, even, api.ErrArg)
		}
	}
	for _, a := range []word.Auto{noLetters, ragged, {}} {
		if word.IsGroup(a, "a", 2) {
			t.Error("IsGroup")
		}
	}
}

func TestWordErrors(t *testing.T) {
	long := strings.Repeat("ab", 2500)
	for _, c := range []struct {
		w    string
		want api.Errno
	}{
		{"", api.OK}, {"abba", api.OK}, {long, api.OK}, {long + "a", api.ErrLong}, {long + "c", api.ErrArg}, {"c", api.ErrArg},
		{"A", api.ErrArg}, {"ab ", api.ErrArg}, {"é", api.ErrArg}, {"a\x00", api.ErrArg}, {"`", api.ErrArg}, {"\xff", api.ErrArg},
	} {
		is, e := word.Accepts(all, c.w)
		if e != c.want || is != (e == api.OK) {
			t.Errorf("Accepts(%.9q): %v, %d, want %d", c.w, is, e, c.want)
		}
		if w, ok, e := word.Part(even, c.w, c.w); e != c.want || ok || w != "" {
			t.Errorf("Part(%.9q): %q, %v, %d, want %d", c.w, w, ok, e, c.want)
		}
		if w, ok, e := word.Part(even, "a", c.w); e != c.want || (w != "" || ok) && e != api.OK {
			t.Errorf("Part(a, %.9q): %q, %v, %d, want %d", c.w, w, ok, e, c.want)
		}
	}
	if _, _, e := word.Part(even, long+"a", "c"); e != api.ErrLong {
		t.Errorf("Part: %d", e)
	}
	if _, _, e := word.Part(even, "c", long+"a"); e != api.ErrArg {
		t.Errorf("Part: %d", e)
	}
	four := word.Auto{Letters: 4, Next: [][]int{{0, 0, 0, 0}}, Good: []bool{true}}
	if is, e := word.Accepts(four, "abcd"); !is || e != api.OK {
		t.Errorf("Accepts: %v, %d", is, e)
	}
	if _, e := word.Accepts(four, "abcde"); e != api.ErrArg {
		t.Errorf("Accepts: %d", e)
	}
	if _, e := word.Accepts(cycle(1), "ab"); e != api.ErrArg {
		t.Errorf("Accepts: %d", e)
	}
}

// rows returns, for each of the words, what the language makes of it with each of the tails.
func rows(a word.Auto, words, tails []string) map[string]string {
	out := map[string]string{}
	for _, w := range words {
		row := []byte{}
		for _, u := range tails {
			row = fmt.Append(row, accepts(a, w+u))
		}
		out[w] = string(row)
	}
	return out
}

// TestLeast compares with the definition: states are the classes of words that no tail tells apart, numbered as their first words come. Words and tails of less than 5 letters suffice for 5 states.
func TestLeast(t *testing.T) {
	r := rand.New(rand.NewSource(1))
	for range 300 {
		letters := 1 + r.Intn(2)
		a := random(r, 1+r.Intn(5), letters)
		words := upTo(letters, 5)
		row := rows(a, words, upTo(letters, 4))
		var firsts []string
		number := map[string]int{}
		for _, w := range words {
			if _, ok := number[row[w]]; !ok {
				number[row[w]] = len(firsts)
				firsts = append(firsts, w)
			}
		}
		want := word.Auto{Letters: letters}
		for _, w := range firsts {
			var next []int
			for x := range letters {
				next = append(next, number[row[w+string(rune('a'+x))]])
			}
			want.Next = append(want.Next, next)
			want.Good = append(want.Good, accepts(a, w))
		}
		got, e := word.Least(a)
		if !reflect.DeepEqual(got, want) || e != api.OK {
			t.Fatalf("Least(%v): %v, %d, want %v", a, got, e, want)
		}
		if classes, e := word.Classes(a); !slices.Equal(classes, firsts) || e != api.OK {
			t.Fatalf("Classes(%v): %q, %d, want %q", a, classes, e, firsts)
		}
		for _, u := range words[:min(len(words), 15)] {
			for _, v := range words {
				w, ok, e := word.Part(a, u, v)
				i := slices.IndexFunc(words, func(w string) bool { return accepts(a, u+w) != accepts(a, v+w) })
				if ok != (i >= 0) || ok && w != words[i] || !ok && w != "" || ok == (number[row[u]] == number[row[v]]) || e != api.OK {
					t.Fatalf("Part(%v, %q, %q): %q, %v, %d", a, u, v, w, ok, e)
				}
			}
		}
	}
}

// TestWordsOfLanguages compares with all words up to a length.
func TestWordsOfLanguages(t *testing.T) {
	r := rand.New(rand.NewSource(2))
	for range 300 {
		letters := 1 + r.Intn(3)
		a, b := random(r, 1+r.Intn(4), letters), random(r, 1+r.Intn(4), letters)
		words := upTo(letters, 8/letters+3)
		var in []string
		first, differ := "", false
		for _, w := range words {
			if is, e := word.Accepts(a, w); is != accepts(a, w) || e != api.OK {
				t.Fatalf("Accepts(%v, %q): %v, %d", a, w, is, e)
			}
			if accepts(a, w) {
				in = append(in, w)
			}
			if !differ && accepts(a, w) != accepts(b, w) {
				first, differ = w, true
			}
		}
		if w, is, e := word.Differ(a, b); w != first || is != differ || e != api.OK {
			t.Fatalf("Differ(%v, %v): %q, %v, %d, want %q", a, b, w, is, e, first)
		}
		w, e := word.First(a)
		if len(in) == 0 && (w != "" || e != api.ErrNone) || len(in) > 0 && (w != in[0] || e != api.OK) {
			t.Fatalf("First(%v): %q, %d", a, w, e)
		}
		got, e := word.Words(a, max(len(in), 1))
		if e != api.OK || !slices.Equal(got[:min(len(got), len(in))], in) {
			t.Fatalf("Words(%v): %q, %d, want %q", a, got, e, in)
		}
		for n := range len(words[len(words)-1]) + 1 {
			count := int64(0)
			for _, w := range in {
				if len(w) == n {
					count++
				}
			}
			if c, e := word.Count(a, n); c != count || e != api.OK {
				t.Fatalf("Count(%v, %d): %d, %d, want %d", a, n, c, e, count)
			}
		}
	}
}

func TestFirst(t *testing.T) {
	if w, e := word.First(none); w != "" || e != api.ErrNone {
		t.Errorf("First: %q, %d", w, e)
	}
	if w, e := word.First(all); w != "" || e != api.OK {
		t.Errorf("First: %q, %d", w, e)
	}
	if w, e := word.First(lengths(3, 62)); w != strings.Repeat("a", 62) || e != api.OK {
		t.Errorf("First: %q, %d", w, e)
	}
	unreached := word.Auto{Letters: 1, Next: [][]int{{0}, {0}}, Good: []bool{false, true}}
	if w, e := word.First(unreached); w != "" || e != api.ErrNone {
		t.Errorf("First: %q, %d", w, e)
	}
	if w, e := word.First(ends); w != "ab" || e != api.OK {
		t.Errorf("First: %q, %d", w, e)
	}
}

func TestDiffer(t *testing.T) {
	if w, differ, e := word.Differ(all, none); w != "" || !differ || e != api.OK {
		t.Errorf("Differ: %q, %v, %d", w, differ, e)
	}
	if w, differ, e := word.Differ(cycle(63), cycle(64)); len(w) != 63 || !differ || e != api.OK {
		t.Errorf("Differ: %q, %v, %d", w, differ, e)
	}
	if w, differ, e := word.Differ(nth(6), nth(7)); w != "aaaaaa" || !differ || e != api.OK {
		t.Errorf("Differ: %q, %v, %d", w, differ, e)
	}
	if w, differ, e := word.Differ(ends, copied(ends)); w != "" || differ || e != api.OK {
		t.Errorf("Differ: %q, %v, %d", w, differ, e)
	}
}

func TestCount(t *testing.T) {
	four := word.Auto{Letters: 4, Next: [][]int{{0, 0, 0, 0}}, Good: []bool{true}}
	for _, c := range []struct {
		a    word.Auto
		n    int
		want int64
		e    api.Errno
	}{
		{four, 30, 1 << 60, api.OK}, {four, 0, 1, api.OK}, {four, 31, 0, api.ErrArg}, {four, -1, 0, api.ErrArg},
		{four, math.MaxInt, 0, api.ErrArg}, {four, math.MinInt, 0, api.ErrArg},
		{even, 3, 4, api.OK}, {none, 7, 0, api.OK}, {cycle(7), 28, 1, api.OK}, {cycle(7), 27, 0, api.OK},
	} {
		if n, e := word.Count(c.a, c.n); n != c.want || e != c.e {
			t.Errorf("Count(%d): %d, %d, want %d, %d", c.n, n, e, c.want, c.e)
		}
	}
}

func TestWords(t *testing.T) {
	for _, most := range []int{0, -1, 1001, math.MaxInt, math.MinInt} {
		if l, e := word.Words(all, most); len(l) != 0 || e != api.ErrArg {
			t.Errorf("Words(%d): %q, %d", most, l, e)
		}
	}
	if l, e := word.Words(all, 1000); !slices.Equal(l, upTo(2, 9)[:1000]) || e != api.OK {
		t.Errorf("Words: %d, %d", len(l), e)
	}
	if l, e := word.Words(all, 1); !slices.Equal(l, []string{""}) || e != api.OK {
		t.Errorf("Words: %q, %d", l, e)
	}
	if l, e := word.Words(none, 1000); len(l) != 0 || e != api.OK {
		t.Errorf("Words: %q, %d", l, e)
	}
	if l, e := word.Words(lengths(1, 0, 62), 1000); len(l) != 2 || len(l[1]) != 62 || e != api.OK {
		t.Errorf("Words: %q, %d", l, e)
	}
	l, e := word.Words(cycle(64), 1000)
	if len(l) != 1000 || len(l[999]) != 999*64 || e != api.OK {
		t.Errorf("Words: %d, %d", len(l), e)
	}
	// Words of the length 2, and of lengths that are multiples of 61 from a long chain on.
	far := lengths(2, 2)
	far.Next[3] = []int{3, 4}
	far.Next = append(far.Next, []int{3, 3})
	far.Good = append(far.Good, false)
	if l, e := word.Words(far, 9); !slices.Equal(l, []string{"aa", "ab", "ba", "bb"}) || e != api.OK {
		t.Errorf("Words: %q, %d", l, e)
	}
}

func TestLeastExamples(t *testing.T) {
	if a, e := word.Least(ends); !reflect.DeepEqual(a, ends) || e != api.OK {
		t.Errorf("Least: %v, %d", a, e)
	}
	if a, e := word.Least(cycle(64)); !reflect.DeepEqual(a, cycle(64)) || e != api.OK {
		t.Errorf("Least: %d states, %d", len(a.Next), e)
	}
	double := cycle(64)
	double.Good[32] = true
	if a, e := word.Least(double); !reflect.DeepEqual(a, cycle(32)) || e != api.OK {
		t.Errorf("Least: %d states, %d", len(a.Next), e)
	}
	for _, a := range []word.Auto{lengths(3, 0), none, all} {
		b, e := word.Least(a)
		if again, f := word.Least(b); !reflect.DeepEqual(again, b) || e != api.OK || f != api.OK {
			t.Errorf("Least: %v, %v", b, again)
		}
	}
	if l, e := word.Classes(none); !slices.Equal(l, []string{""}) || e != api.OK {
		t.Errorf("Classes: %q, %d", l, e)
	}
	if l, e := word.Classes(lengths(4, 62)); len(l) != 64 || l[63] != strings.Repeat("a", 63) || e != api.OK {
		t.Errorf("Classes: %q, %d", l, e)
	}
}

// TestMemory changes results: neither arguments nor other results change with them.
func TestMemory(t *testing.T) {
	a, b := copied(ends), copied(even)
	spoil := func(c word.Auto) {
		for i := range c.Next {
			for x := range c.Next[i] {
				c.Next[i][x] = -1
			}
			c.Good[i] = !c.Good[i]
			c.Next[i] = append(c.Next[i], -2)
		}
	}
	for _, call := range []func() (word.Auto, api.Errno){
		func() (word.Auto, api.Errno) { return word.Least(a) },
		func() (word.Auto, api.Errno) { return word.Not(a) },
		func() (word.Auto, api.Errno) { return word.Both(a, b) },
		func() (word.Auto, api.Errno) { return word.Either(a, a) },
		func() (word.Auto, api.Errno) { return word.Follow(a, b) },
		func() (word.Auto, api.Errno) { return word.Repeat(a) },
		func() (word.Auto, api.Errno) { return word.Reverse(b) },
	} {
		c, _ := call()
		kept, _ := call()
		spoil(c)
		if again, _ := call(); !reflect.DeepEqual(again, kept) || !reflect.DeepEqual(a, ends) || !reflect.DeepEqual(b, even) {
			t.Errorf("%v, then %v", kept, again)
		}
	}
	// Rows that share memory, and slices that go on beyond their lengths.
	row := []int{0, 1, 7, 7}
	long := word.Auto{Letters: 2, Next: [][]int{row[:2], row[:2], nil}[:2], Good: []bool{false, true, true}[:2]}
	if l, e := word.Words(long, 3); !slices.Equal(l, []string{"b", "ab", "bb"}) || e != api.OK {
		t.Errorf("Words: %q, %d", l, e)
	}
}
