package same_test

import (
	"math"
	"math/rand"
	"slices"
	"testing"

	"minikin/api"
	"minikin/same"
)

// table returns a table for a name.
func table(name string, arity int, values ...int) same.Table {
	return same.Table{Name: name, Arity: arity, Values: values}
}

// TestParts: what is a model that parts an equation from others (P6.2).
func TestParts(t *testing.T) {
	a, b, f := table("a", 0, 0), table("b", 0, 1), table("f", 1, 1, 1)
	for i, x := range []struct {
		size   int
		tables []same.Table
		is     bool
	}{
		{2, []same.Table{a, b, f}, true},
		{2, []same.Table{f, b, a}, true},
		{2, []same.Table{b, a, table("f", 1, 1, 0)}, true},
		{3, []same.Table{a, table("b", 0, 2), table("f", 1, 2, 0, 1)}, true},
		{1, []same.Table{a, table("b", 0, 0), table("f", 1, 0)}, false},
		// The given equation does not hold, or the other one does.
		{2, []same.Table{a, b, table("f", 1, 0, 1)}, false},
		{2, []same.Table{a, table("b", 0, 0), table("f", 1, 0, 1)}, false},
		{2, []same.Table{table("a", 0, 1), b, f}, false},
		// A table too many, one twice, one missing, one of another name.
		{2, []same.Table{a, b, f, table("c", 0, 0)}, false},
		{2, []same.Table{a, b, f, {}}, false},
		{2, []same.Table{a, b, f, f}, false},
		{2, []same.Table{a, a, b, f}, false},
		{2, []same.Table{a, b}, false},
		{2, []same.Table{a, b, b}, false},
		{2, []same.Table{b, f}, false},
		{2, nil, false},
		{2, []same.Table{a, b, table("g", 1, 1, 1)}, false},
		{2, []same.Table{a, b, table("", 1, 1, 1)}, false},
		{2, []same.Table{a, b, table("F", 1, 1, 1)}, false},
		// Wrong arities.
		{2, []same.Table{a, b, table("f", 2, 1, 1, 1, 1)}, false},
		{2, []same.Table{a, b, table("f", 0, 1)}, false},
		{2, []same.Table{a, b, table("f", 2, 1, 1)}, false},
		{2, []same.Table{a, b, table("f", -1, 1, 1)}, false},
		{2, []same.Table{a, b, table("f", math.MaxInt, 1, 1)}, false},
		{2, []same.Table{a, b, table("f", math.MinInt)}, false},
		{2, []same.Table{table("a", 1, 0, 0), b, f}, false},
		// Wrong numbers of values.
		{2, []same.Table{a, b, table("f", 1, 1)}, false},
		{2, []same.Table{a, b, table("f", 1, 1, 1, 1)}, false},
		{2, []same.Table{a, b, table("f", 1)}, false},
		{2, []same.Table{table("a", 0), b, f}, false},
		{2, []same.Table{table("a", 0, 0, 0), b, f}, false},
		{3, []same.Table{a, b, f}, false},
		{1, []same.Table{a, b, f}, false},
		// Values that are no elements.
		{2, []same.Table{a, b, table("f", 1, 1, 2)}, false},
		{2, []same.Table{a, b, table("f", 1, 1, -1)}, false},
		{2, []same.Table{table("a", 0, 2), b, f}, false},
		{2, []same.Table{table("a", 0, -1), b, f}, false},
		{2, []same.Table{table("a", 0, math.MinInt), b, f}, false},
		{2, []same.Table{table("a", 0, math.MaxInt), b, f}, false},
		{3, []same.Table{a, b, table("f", 1, 1, 3, 0)}, false},
		// Sizes that are none, or very large.
		{0, []same.Table{a, b, f}, false},
		{0, []same.Table{a, b, table("f", 1)}, false},
		{-1, []same.Table{a, b, f}, false},
		{-2, []same.Table{a, b, f}, false},
		{math.MinInt, []same.Table{a, b, f}, false},
		{math.MaxInt, []same.Table{a, b, f}, false},
	} {
		tables := append(slices.Clone(x.tables), table("a", 9, 9))[:len(x.tables)]
		if is := same.Parts([][2]string{{"f(a)", "b"}}, "a", "b", same.Model{Size: x.size, Tables: tables}); is != x.is {
			t.Errorf("%d, %v: %v", i, x, is)
		}
	}
}

// TestHugeParts: sizes for which no table but those of names alone can be large enough (P6.2).
func TestHugeParts(t *testing.T) {
	for _, size := range []int{2, 1 << 16, 1 << 31, 1 << 32, 1 << 62, math.MaxInt} {
		alone := same.Model{Size: size, Tables: []same.Table{table("a", 0, size-1), table("b", 0, 0)}}
		if !same.Parts(nil, "a", "b", alone) || same.Parts([][2]string{{"a", "b"}}, "a", "b", alone) {
			t.Errorf("size %d", size)
		}
		for arity := 1; arity <= 4; arity++ {
			term := []string{"", "f(a)", "f(a,a)", "f(a,a,a)", "f(a,a,a,a)"}[arity]
			for n := range 3 {
				m := alone
				m.Tables = append(slices.Clone(m.Tables), table("f", arity, make([]int, n)...))
				if same.Parts([][2]string{{term, "b"}}, "a", "b", m) != (size == 2 && n == 2 && arity == 1) {
					t.Errorf("size %d, arity %d, %d values", size, arity, n)
				}
			}
		}
	}
}

// TestIndex: a value is at the index that the definition says (P6.2).
func TestIndex(t *testing.T) {
	r := rand.New(rand.NewSource(70))
	for arity, term := range []string{"", "f(b)", "f(b,c)", "f(c,a,b)", "f(b,c,a,b)"} {
		if arity == 0 {
			continue
		}
		at := 0
		for _, p := range parse(term).parts {
			at = at*3 + int(p.name[0]-'a')
		}
		size := 1
		for range arity {
			size *= 3
		}
		m := same.Model{Size: 3, Tables: []same.Table{table("a", 0, 0), table("b", 0, 1), table("c", 0, 2), table("f", arity, make([]int, size)...)}}
		given := [][2]string{{"b", "b"}, {"c", "c"}, {"a", "a"}}
		for i := range size {
			clear(m.Tables[3].Values)
			m.Tables[3].Values[i] = 1 + r.Intn(2)
			if same.Parts(given, term, "a", m) != (i == at) {
				t.Errorf("%s: %d", term, i)
			}
		}
	}
}

// TestModels changes models at random and compares with the definition (P6.2).
func TestModels(t *testing.T) {
	r := rand.New(rand.NewSource(71))
	yes, no := 0, 0
	for _, q := range chance(72, 600) {
		m, ok := same.Part(q.given, q.s, q.t)
		if !ok {
			continue
		}
		for range 40 {
			n := same.Model{Size: m.Size}
			for _, x := range m.Tables {
				x.Values = slices.Clone(x.Values)
				n.Tables = append(n.Tables, x)
			}
			for range 1 + r.Intn(4) {
				x := &n.Tables[r.Intn(len(n.Tables))]
				switch r.Intn(12) {
				case 0:
					x.Arity = r.Intn(6) - 1
				case 1:
					x.Values = x.Values[:max(0, len(x.Values)-1)]
				case 2:
					x.Name = []string{"a", "b", "f", "new", ""}[r.Intn(5)]
				case 3:
					n.Size = r.Intn(m.Size+3) - 1
				case 4:
					n.Tables[r.Intn(len(n.Tables))] = *x
				default:
					if k := len(x.Values); k > 0 {
						x.Values[r.Intn(k)] = r.Intn(m.Size+1) - r.Intn(20)/19
					}
				}
			}
			want := q.parts(n)
			if same.Parts(q.given, q.s, q.t, n) != want {
				t.Fatalf("Parts(%v, %v): not %v", q, n, want)
			}
			if want {
				yes++
			} else {
				no++
			}
		}
	}
	if yes < 1000 || no < 1000 {
		t.Errorf("%d models and %d others", yes, no)
	}
}

// ladders returns equations of terms with themselves that have that many terms in all, with aa and ab among them: names, and what f makes of them.
func ladders(terms int) [][2]string {
	var out [][2]string
	for i := 0; terms > 0; i++ {
		levels := min(terms, 20)
		if i == 0 {
			levels = min(terms-1, 20)
		}
		terms -= levels
		term := nest(levels, 0, word(i))
		out = append(out, [2]string{term, term})
	}
	return out
}

// TestSizes: tables of up to 10^6 values, and larger ones (P6.2).
func TestSizes(t *testing.T) {
	for _, x := range []struct {
		wide  string // a term that is the same as aa
		size  int
		parts bool
	}{
		{"g(aa,aa)", 2, true}, {"g(aa,aa)", 999, true}, {"g(aa,aa)", 1000, true}, {"g(aa,aa)", 1001, false}, {"g(aa,aa)", 1500, false},
		{"h(aa,aa,aa)", 2, true}, {"h(aa,aa,aa)", 99, true}, {"h(aa,aa,aa)", 100, true}, {"h(aa,aa,aa)", 101, false}, {"h(aa,aa,aa)", 1500, false},
		{"k(aa,aa,aa,aa)", 2, true}, {"k(aa,aa,aa,aa)", 31, true}, {"k(aa,aa,aa,aa)", 32, false}, {"k(aa,aa,aa,aa)", 1500, false},
		{"f(aa)", 2, true}, {"aa", 2, true}, {"aa", 1001, true}, {"aa", 1900, true},
	} {
		given := append(ladders(x.size), [2]string{x.wide, "aa"})
		if x.wide == "f(aa)" {
			given = given[len(given)-1:]
		}
		m, ok := same.Part(given, "aa", "ab")
		if ok != x.parts || ok && m.Size != x.size || !ok && (m.Size != 0 || len(m.Tables) > 0) {
			t.Errorf("%s with %d: %d, %v", x.wide, x.size, m.Size, ok)
		}
		if ok && !same.Parts(given, "aa", "ab", m) {
			t.Errorf("%s with %d: no model", x.wide, x.size)
		}
		if is, e := same.Same(given, "aa", "ab"); is || e != api.OK {
			t.Errorf("%s with %d: %v, %d", x.wide, x.size, is, e)
		}
		if proof, ok := same.Prove(given, "aa", "ab"); ok || len(proof) > 0 {
			t.Errorf("%s with %d: proved", x.wide, x.size)
		}
	}
	// Terms that are the same are one element, those within terms are some too.
	given := append(ladders(1000), [2]string{"g(aa,ab)", "ab"}, [2]string{"f(zz)", "zz"})
	if m, ok := same.Part(given, "aa", "ab"); ok || m.Size != 0 {
		t.Errorf("1001 classes: %d", m.Size)
	}
	if m, ok := same.Part(append(given, [2]string{"zz", "aa"}), "aa", "ab"); !ok {
		t.Errorf("fewer classes: %d", m.Size)
	}
	if m, ok := same.Part(given[:len(given)-1], "aa", "g(zz,zz)"); ok {
		t.Errorf("1002 classes, of the terms within t: %d", m.Size)
	}
}

// TestNoModel: no model parts what has an error, nor by more than 100 given equations (P6.1, P6.2).
func TestNoModel(t *testing.T) {
	many := make([][2]string, 101)
	for i := range many {
		many[i] = [2]string{"a", "a"}
	}
	two := same.Model{Size: 2, Tables: []same.Table{table("a", 0, 0), table("b", 0, 1)}}
	for n, want := range map[int]bool{0: true, 1: true, 100: true, 101: false} {
		if same.Parts(many[:n], "a", "b", two) != want {
			t.Errorf("%d given equations: not %v", n, want)
		}
		if n > 0 && same.Parts(many[:n], "a", "a", two) {
			t.Errorf("%d given equations: a = a", n)
		}
	}
	for term, want := range map[string]bool{"b": true, "X": false, "": false, "abcdefgh": true, "abcdefghi": false, "B": false, " ": false, "b ": false} {
		m := same.Model{Size: 2, Tables: []same.Table{table("a", 0, 0), table(term, 0, 1)}}
		if same.Parts(nil, "a", term, m) != want || same.Parts(nil, term, "a", m) != want {
			t.Errorf("%q: not %v", term, want)
		}
	}
	for levels, want := range map[int]bool{19: true, 20: true, 21: false, 22: false} {
		m := same.Model{Size: 2, Tables: []same.Table{table("a", 0, 0), table("b", 0, 1), table("f", 1, 0, 1)}}
		if same.Parts(nil, nest(levels, 0, "a"), "b", m) != want {
			t.Errorf("%d levels: not %v", levels, want)
		}
	}
	wide := same.Model{Size: 2, Tables: []same.Table{table("a", 0, 0), table("b", 0, 1), table("f", 5, make([]int, 32)...)}}
	if same.Parts(nil, "f(a,a,a,a,a)", "b", wide) {
		t.Error("five terms in brackets")
	}
}
