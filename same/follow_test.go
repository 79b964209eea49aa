package same_test

import (
	"math"
	"math/rand"
	"slices"
	"strings"
	"testing"

	"minikin/api"
	"minikin/same"
)

// chance returns k questions of several kinds.
func chance(seed int64, k int) []question {
	r := rand.New(rand.NewSource(seed))
	var out []question
	for range k {
		out = append(out, ask(r, 9, 3))
	}
	return out
}

// TestFollowing compares with the definition and asks for proofs and models, one of which there must be (P6.2, P6.5).
func TestFollowing(t *testing.T) {
	yes := 0
	for _, q := range chance(61, 1500) {
		want := follows(q.given, q.s, q.t)
		is, e := same.Same(q.given, q.s, q.t)
		if is != want || e != api.OK {
			t.Fatalf("Same(%v): %v, %d", q, is, e)
		}
		proof, ok := same.Prove(q.given, q.s, q.t)
		if ok != want || ok && (!q.proves(proof) || !same.Proves(q.given, q.s, q.t, proof)) || !ok && len(proof) > 0 {
			t.Fatalf("Prove(%v): %v, %v", q, proof, ok)
		}
		m, ok := same.Part(q.given, q.s, q.t)
		if ok == want || ok && (!q.parts(m) || !same.Parts(q.given, q.s, q.t, m)) || !ok && (m.Size != 0 || len(m.Tables) > 0) {
			t.Fatalf("Part(%v): %v, %v", q, m, ok)
		}
		if ok && same.Proves(q.given, q.s, q.t, proof) {
			t.Fatalf("%v: a proof and a model", q)
		}
		if want && q.s != q.t {
			yes++
		}
	}
	if yes < 100 {
		t.Errorf("%d follow", yes)
	}
}

// TestClasses compares with the definition (P6.3).
func TestClasses(t *testing.T) {
	r := rand.New(rand.NewSource(62))
	for _, q := range chance(63, 1000) {
		terms := []string{q.s, q.t}
		for range r.Intn(6) {
			terms = append(terms, grow(r, 1+r.Intn(3), "a", "b", "c").String())
		}
		terms = append(terms, terms[r.Intn(len(terms))])
		number := classes(q.given, terms...)
		var want, met []int
		for _, s := range terms {
			if !slices.Contains(met, number[s]) {
				met = append(met, number[s])
			}
			want = append(want, slices.Index(met, number[s]))
		}
		if l, e := same.Classes(q.given, terms); !slices.Equal(l, want) || e != api.OK {
			t.Fatalf("Classes(%v, %v): %v, %d, not %v", q.given, terms, l, e, want)
		}
	}
}

// TestCore compares with the definition (P6.3).
func TestCore(t *testing.T) {
	most := 0
	for _, q := range chance(64, 1500) {
		if !follows(q.given, q.s, q.t) {
			if l, e := same.Core(q.given, q.s, q.t); len(l) > 0 || e != api.ErrArg {
				t.Fatalf("Core(%v): %v, %d", q, l, e)
			}
			continue
		}
		left := slices.Clone(q.given)
		var want []int
		for i := len(left) - 1; i >= 0; i-- {
			if less := slices.Delete(slices.Clone(left), i, i+1); follows(less, q.s, q.t) {
				left = less
			} else {
				want = append(want, i)
			}
		}
		slices.Reverse(want)
		if l, e := same.Core(q.given, q.s, q.t); !slices.Equal(l, want) || e != api.OK {
			t.Fatalf("Core(%v): %v, %d, not %v", q, l, e, want)
		}
		most = max(most, len(want))
	}
	if most < 3 {
		t.Errorf("cores of at most %d", most)
	}
}

// TestCores: cores of which several given equations would do (P6.3).
func TestCores(t *testing.T) {
	for _, x := range []struct {
		given string
		s, t  string
		want  []int
		e     api.Errno
	}{
		{"a=b b=a", "a", "b", []int{0}, api.OK},
		{"a=b a=b a=b", "b", "a", []int{0}, api.OK},
		{"a=c a=b c=b", "a", "b", []int{1}, api.OK},
		{"a=c c=b a=b", "a", "b", []int{0, 1}, api.OK},
		{"a=b a=c c=b", "a", "b", []int{0}, api.OK},
		{"a=c c=d d=b c=b", "a", "b", []int{0, 1, 2}, api.OK},
		{"c=b d=b c=d a=c", "a", "b", []int{0, 3}, api.OK},
		{"f(a)=b a=a f(c)=b a=c", "f(a)", "f(c)", []int{0, 2}, api.OK},
		{"a=c f(a)=b f(c)=b", "f(a)", "f(c)", []int{0}, api.OK},
		{"f(f(f(a)))=a f(f(f(f(f(a)))))=a", "f(a)", "a", []int{0, 1}, api.OK},
		{"f(f(f(a)))=a f(f(f(f(f(a)))))=a f(a)=a", "f(a)", "a", []int{0, 1}, api.OK},
		{"f(a)=a f(f(f(a)))=a f(f(f(f(f(a)))))=a", "a", "f(a)", []int{0}, api.OK},
		{"a=b c=d", "g(a,c)", "g(b,d)", []int{0, 1}, api.OK},
		{"a=b c=d", "e", "e", nil, api.OK},
		{"", "a", "a", nil, api.OK},
		{"", "a", "b", nil, api.ErrArg},
		{"f(a)=f(b)", "a", "b", nil, api.ErrArg},
		{"a=a b=b", "a", "b", nil, api.ErrArg},
	} {
		var given [][2]string
		for _, g := range strings.Fields(x.given) {
			s, u, _ := strings.Cut(g, "=")
			given = append(given, [2]string{s, u})
		}
		if l, e := same.Core(given, x.s, x.t); !slices.Equal(l, x.want) || e != x.e {
			t.Errorf("Core(%s, %s = %s): %v, %d", x.given, x.s, x.t, l, e)
		}
	}
	// A chain of 100 that are all needed, in both orders, and with others between.
	var chain [][2]string
	all := make([]int, 100)
	for i := range all {
		all[i] = i
		chain = append(chain, [2]string{word(i), word(i + 1)})
	}
	for range 2 {
		if l, e := same.Core(chain, word(0), word(100)); !slices.Equal(l, all) || e != api.OK {
			t.Errorf("Core of a chain: %v, %d", l, e)
		}
		if l, e := same.Core(chain, word(40), word(41)); len(l) != 1 || e != api.OK {
			t.Errorf("Core of a link: %v, %d", l, e)
		}
		slices.Reverse(chain)
	}
}

// word returns a name for each number below 676.
func word(i int) string {
	return string([]byte{'a' + byte(i/26), 'a' + byte(i%26)})
}

// TestNothing: no given equations, and equations of terms with themselves (P6.2, P6.3).
func TestNothing(t *testing.T) {
	terms := []string{"a", "b", "f(a)", "f(b)", "g(a,b)", "g(b,a)", "a"}
	self := [][2]string{{"a", "a"}, {"f(b)", "f(b)"}, {"g(b,a)", "g(b,a)"}}
	for _, given := range [][][2]string{nil, {}, self} {
		for i, s := range terms {
			for j, u := range terms {
				q := question{given: given, s: s, t: u}
				want := i%6 == j%6
				is, e := same.Same(given, s, u)
				proof, proved := same.Prove(given, s, u)
				m, parted := same.Part(given, s, u)
				if is != want || e != api.OK || proved != want || parted == want || proved && !q.proves(proof) || parted && !q.parts(m) {
					t.Errorf("%v: %v, %d, %v, %v", q, is, e, proof, m)
				}
			}
		}
		if l, e := same.Classes(given, terms); !slices.Equal(l, []int{0, 1, 2, 3, 4, 5, 0}) || e != api.OK {
			t.Errorf("Classes: %v, %d", l, e)
		}
	}
}

// TestCongruence: Same is an equivalence and a congruence, and more given equations make no less follow (P6.6).
func TestCongruence(t *testing.T) {
	is := func(given [][2]string, s, t string) bool {
		ok, e := same.Same(given, s, t)
		return ok && e == api.OK
	}
	for i, q := range chance(66, 300) {
		terms := within(q.terms()...)
		for _, g := range q.given {
			if !is(q.given, g[0], g[1]) || !is(q.given, g[1], g[0]) {
				t.Fatalf("%v: not %v", q, g)
			}
		}
		r := rand.New(rand.NewSource(int64(i)))
		some := func() string { return terms[r.Intn(len(terms))] }
		for range 40 {
			x, y, z := some(), some(), some()
			xy, yz := is(q.given, x, y), is(q.given, y, z)
			if !is(q.given, x, x) || is(q.given, y, x) != xy || xy && yz && !is(q.given, x, z) {
				t.Fatalf("%v: no equivalence of %s, %s, %s", q, x, y, z)
			}
			for _, around := range []string{"f(.)", "g(.,b)", "g(b,.)", "h(b,.,c)", "h(.,f(.),.)", "k(c,b,.,b)", "k(b,b,.,.)"} {
				if s, u := strings.ReplaceAll(around, ".", x), strings.ReplaceAll(around, ".", y); xy && !is(q.given, s, u) {
					t.Fatalf("%v: %s = %s, not %s = %s", q, x, y, s, u)
				}
			}
			if n := r.Intn(len(q.given) + 1); !xy && is(q.given[:n], x, y) {
				t.Fatalf("%v: %s = %s by the first %d", q, x, y, n)
			}
		}
	}
}

// TestMuch: as many and as large terms as there can be, with long chains of what follows from what (P6.2, P6.3).
func TestMuch(t *testing.T) {
	// All steps of a circle, each by a large term: 89 and 55 of them lead back, so that each one does.
	var build func(leaf string, levels int, at *int) string
	build = func(leaf string, levels int, at *int) string {
		if levels == 0 {
			return leaf
		}
		*at++
		name := "x" + word(*at)
		left := build(leaf, levels-1, at)
		return name + "(" + left + "," + build(leaf, levels-1, at) + ")"
	}
	var given [][2]string
	for i := range 98 {
		at := 0
		given = append(given, [2]string{build(word(i), 7, &at), word(i + 1)})
	}
	given = append(given, [2]string{word(89), word(0)}, [2]string{word(55), word(0)})
	proof, ok := same.Prove(given, word(0), word(1))
	if !ok || !same.Proves(given, word(0), word(1), proof) {
		t.Errorf("circle: %d steps, %v", len(proof), ok)
	}
	if ok := same.Proves(given[:99], word(0), word(1), proof); ok {
		t.Error("circle: proved without the last equation")
	}
	if is, e := same.Same(given[:99], word(0), word(1)); is || e != api.OK {
		t.Errorf("circle without the last equation: %v, %d", is, e)
	}
	// A chain of 100 equations between leaves of terms of nearly 2000 bytes.
	var chain [][2]string
	for i := range 100 {
		chain = append(chain, [2]string{word(i), word(i + 1)})
	}
	at, also := 0, 0
	s, u := build(word(0), 7, &at), build(word(100), 7, &also)
	s, u = "y("+s+",aa)", "y("+u+","+word(50)+")"
	proof, ok = same.Prove(chain, s, u)
	if !ok || !same.Proves(chain, s, u, proof) {
		t.Errorf("chain: %d steps, %v", len(proof), ok)
	}
	m, ok := same.Part(chain[1:], s, u)
	if !ok || !same.Parts(chain[1:], s, u, m) {
		t.Errorf("broken chain: %d, %v", m.Size, ok)
	}
	if l, e := same.Core(chain, s, u); len(l) != 100 || e != api.OK {
		t.Errorf("chain: %v, %d", l, e)
	}
}

// TestArguments: arguments stay as they are and what lies beyond them is not read; results are new (R4, R7).
func TestArguments(t *testing.T) {
	for _, q := range chance(67, 200) {
		all := append(append([][2]string{{"(", ")"}}, q.given...), [2]string{"X", ""}, [2]string{q.s, q.t})
		given := all[1 : 1+len(q.given)]
		terms := []string{"?", q.s, q.t, "X(", q.t}
		before, asked := slices.Clone(all), slices.Clone(terms)
		for range 2 {
			is, _ := same.Same(given, q.s, q.t)
			if want := follows(q.given, q.s, q.t); is != want {
				t.Fatalf("%v: %v", q, is)
			}
			proof, _ := same.Prove(given, q.s, q.t)
			again, _ := same.Prove(given, q.s, q.t)
			if !slices.EqualFunc(proof, again, equal) {
				t.Fatalf("%v: %v, then %v", q, proof, again)
			}
			for i, step := range proof {
				for j := range step.List {
					step.List[j] = -1 - i
				}
			}
			for i, step := range proof {
				if slices.ContainsFunc(step.List, func(at int) bool { return at != -1-i }) {
					t.Fatalf("%v: lists share memory", q)
				}
			}
			m, parted := same.Part(given, q.s, q.t)
			for _, table := range m.Tables {
				kept := slices.Clone(table.Values)
				for i := range table.Values {
					table.Values[i] = -1
				}
				if same.Parts(given, q.s, q.t, m) {
					t.Fatalf("%v: parts with a broken %s", q, table.Name)
				}
				copy(table.Values, kept)
			}
			if parted && !same.Parts(given, q.s, q.t, m) {
				t.Fatalf("%v: tables of %v share memory", q, m)
			}
			classes, _ := same.Classes(given, terms[1:3])
			for i := range classes {
				classes[i] = 99
			}
			core, _ := same.Core(given, q.s, q.t)
			for i := range core {
				core[i] = 99
			}
			if !slices.Equal(all, before) || !slices.Equal(terms, asked) {
				t.Fatalf("%v: changed to %v, %v", q, all, terms)
			}
		}
		classes, _ := same.Classes(given, terms[1:3])
		if is := follows(q.given, q.s, q.t); !slices.Equal(classes, []int{0, 1}) != is {
			t.Fatalf("%v: then %v", q, classes)
		}
	}
}

// equal reports whether two steps are the same.
func equal(a, b same.Step) bool {
	return a.Kind == b.Kind && a.A == b.A && a.B == b.B && a.Text == b.Text && slices.Equal(a.List, b.List)
}

// TestAnything gives all calls data without sense: each one ends (P1).
func TestAnything(t *testing.T) {
	r := rand.New(rand.NewSource(77))
	number := func() int {
		return []int{math.MinInt, -1, 0, 1, 2, 3, 4, 5, r.Intn(100), math.MaxInt, 1 << 32}[r.Intn(11)]
	}
	text := func() string {
		if r.Intn(2) == 0 {
			return grow(r, 1+r.Intn(4), "a", "b", "X").String()
		}
		const any = "abf(,)XY \xff\x00("
		out := make([]byte, r.Intn(12))
		for i := range out {
			out[i] = any[r.Intn(len(any))]
		}
		return string(out)
	}
	numbers := func() []int {
		out := make([]int, r.Intn(6))
		for i := range out {
			out[i] = number()
		}
		return out
	}
	for range 20000 {
		var given [][2]string
		var proof []same.Step
		m := same.Model{Size: number()}
		for range r.Intn(4) {
			given = append(given, [2]string{text(), text()})
			proof = append(proof, same.Step{Kind: number(), A: number(), B: number(), Text: text(), List: numbers()})
			m.Tables = append(m.Tables, same.Table{Name: text(), Arity: number(), Values: numbers()})
		}
		s, u := text(), text()
		same.Check(s)
		is, e := same.Same(given, s, u)
		_, proved := same.Prove(given, s, u)
		_, parted := same.Part(given, s, u)
		l, f := same.Classes(given, []string{s, u})
		if proved != is || parted && is || f != e || is != (len(l) > 0 && l[1] == 0) || same.Parts(given, s, u, m) && is || same.Proves(given, s, u, proof) && !is {
			t.Fatalf("%q, %q, %q, %v, %v", given, s, u, proof, m)
		}
		if _, e := same.Core(given, s, u); (e == api.OK) != is {
			t.Fatalf("Core(%q, %q, %q): %d", given, s, u, e)
		}
		same.Unify(s, u)
		same.Put(given, s)
	}
}
