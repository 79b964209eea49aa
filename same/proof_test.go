package same_test

import (
	"math"
	"math/rand"
	"slices"
	"testing"

	"minikin/same"
)

// Steps by what they need.
func given(a int) same.Step              { return same.Step{Kind: same.Given, A: a} }
func self(text string) same.Step         { return same.Step{Kind: same.Self, Text: text} }
func turn(a int) same.Step               { return same.Step{Kind: same.Turn, A: a} }
func chain(a, b int) same.Step           { return same.Step{Kind: same.Chain, A: a, B: b} }
func apply(n string, l ...int) same.Step { return same.Step{Kind: same.Apply, Text: n, List: l} }

// TestProves: what is a proof, step by step (P6.2).
func TestProves(t *testing.T) {
	equations := [][2]string{{"a", "b"}, {"b", "c"}, {"g(a,c)", "d"}, {"f(a)", "f(a)"}}
	for _, x := range []struct {
		s, t  string
		proof []same.Step
		is    bool
	}{
		{"a", "b", []same.Step{given(0)}, true},
		{"b", "c", []same.Step{given(1)}, true},
		{"b", "a", []same.Step{given(0)}, false},
		{"a", "c", []same.Step{given(0)}, false},
		{"f(a)", "f(a)", []same.Step{given(3)}, true},
		{"a", "b", []same.Step{given(1), given(0)}, true},
		{"a", "b", []same.Step{given(0), given(1)}, false},
		{"a", "b", nil, false},
		{"a", "a", nil, false},
		// Given equations that there are not.
		{"a", "b", []same.Step{given(4)}, false},
		{"a", "b", []same.Step{given(-1)}, false},
		{"a", "b", []same.Step{given(math.MaxInt)}, false},
		{"a", "b", []same.Step{given(math.MinInt)}, false},
		{"a", "b", []same.Step{given(4), given(0)}, false},
		{"a", "a", []same.Step{self("a")}, true},
		{"a", "a", []same.Step{self("b")}, false},
		{"a", "b", []same.Step{self("a")}, false},
		{"e", "e", []same.Step{self("e")}, true},
		{"f(a)", "f(a)", []same.Step{self("f(a)")}, true},
		{"a", "a", []same.Step{self("zz(zz(zz(q)))"), self("a")}, true},
		// Texts of Self that are no terms, or whose names do not fit.
		{"a", "a", []same.Step{self("X"), self("a")}, false},
		{"a", "a", []same.Step{self(""), self("a")}, false},
		{"a", "a", []same.Step{self("f(X)"), self("a")}, false},
		{"a", "a", []same.Step{self("a "), self("a")}, false},
		{"a", "a", []same.Step{self("f("), self("a")}, false},
		{"a", "a", []same.Step{self("f(a,a)"), self("a")}, false},
		{"a", "a", []same.Step{self("f"), self("a")}, false},
		{"a", "a", []same.Step{self("g(f(a),g(b))"), self("a")}, false},
		{"a", "a", []same.Step{self("q(q)"), self("a")}, false},
		{"a", "a", []same.Step{self("q(a)"), self("q(a,a)"), self("a")}, false},
		{"a", "a", []same.Step{self("q(a)"), self("q(q(a))"), self("a")}, true},
		{"a", "a", []same.Step{self("a"), self("q(a)"), self("a")}, true},
		{"q", "q", []same.Step{self("q(a)"), self("q")}, false},
		{"b", "a", []same.Step{given(0), turn(0)}, true},
		{"a", "b", []same.Step{given(0), turn(0)}, false},
		{"a", "b", []same.Step{given(0), turn(0), turn(1)}, true},
		// Steps that are not earlier ones.
		{"b", "a", []same.Step{turn(1), given(0)}, false},
		{"a", "b", []same.Step{turn(1), given(0)}, false},
		{"b", "a", []same.Step{given(0), turn(1)}, false},
		{"b", "a", []same.Step{given(0), turn(2)}, false},
		{"b", "a", []same.Step{given(0), turn(-1)}, false},
		{"b", "a", []same.Step{given(0), turn(math.MaxInt)}, false},
		{"b", "a", []same.Step{given(0), turn(math.MinInt)}, false},
		{"a", "a", []same.Step{turn(0)}, false},
		{"a", "b", []same.Step{turn(0), given(0)}, false},
		{"a", "c", []same.Step{given(0), given(1), chain(0, 1)}, true},
		{"a", "c", []same.Step{given(1), given(0), chain(1, 0)}, true},
		{"a", "c", []same.Step{given(0), given(1), chain(1, 0)}, false},
		{"b", "b", []same.Step{given(0), given(1), chain(1, 0)}, false},
		{"a", "a", []same.Step{given(0), turn(0), chain(0, 1)}, true},
		{"b", "b", []same.Step{given(0), turn(0), chain(1, 0)}, true},
		{"a", "b", []same.Step{self("a"), given(0), chain(0, 1)}, true},
		{"a", "a", []same.Step{self("a"), chain(0, 0)}, true},
		{"a", "b", []same.Step{given(0), chain(0, 0)}, false},
		{"a", "b", []same.Step{given(0), given(1), chain(0, 0), given(0)}, false},
		{"a", "c", []same.Step{given(0), given(1), chain(0, 2)}, false},
		{"a", "c", []same.Step{given(0), given(1), chain(2, 1)}, false},
		{"a", "c", []same.Step{given(0), chain(0, 2), given(1)}, false},
		{"a", "c", []same.Step{given(0), given(1), chain(0, 3)}, false},
		{"a", "c", []same.Step{given(0), given(1), chain(-1, 1)}, false},
		{"a", "c", []same.Step{given(0), given(1), chain(0, math.MinInt)}, false},
		{"a", "c", []same.Step{given(0), given(1), chain(math.MaxInt, 1)}, false},
		{"f(a)", "f(b)", []same.Step{given(0), apply("f", 0)}, true},
		{"f(b)", "f(a)", []same.Step{given(0), apply("f", 0)}, false},
		{"f(f(a))", "f(f(b))", []same.Step{given(0), apply("f", 0), apply("f", 1)}, true},
		{"g(a,b)", "g(b,c)", []same.Step{given(0), given(1), apply("g", 0, 1)}, true},
		{"g(b,a)", "g(c,b)", []same.Step{given(0), given(1), apply("g", 1, 0)}, true},
		{"g(a,a)", "g(b,b)", []same.Step{given(0), apply("g", 0, 0)}, true},
		{"h(a,a,b)", "h(b,a,c)", []same.Step{given(0), given(1), self("a"), apply("h", 0, 2, 1)}, true},
		{"k(a,b,a,b)", "k(b,c,b,c)", []same.Step{given(0), given(1), apply("k", 0, 1, 0, 1)}, true},
		// An Apply of an empty list.
		{"a", "a", []same.Step{apply("a")}, true},
		{"e", "e", []same.Step{apply("e")}, true},
		{"f(a)", "f(b)", []same.Step{given(0), apply("f")}, false},
		{"a", "a", []same.Step{apply("g"), apply("a")}, false},
		{"a", "b", []same.Step{apply("q"), given(0)}, true},
		{"a", "b", []same.Step{apply("q"), self("q(a)"), given(0)}, false},
		{"a", "b", []same.Step{self("q(a)"), apply("q"), given(0)}, false},
		{"a", "b", []same.Step{given(0), apply("q", 0), apply("q", 0, 0), given(0)}, false},
		{"a", "b", []same.Step{given(0), apply("q", 0), apply("q", 1), given(0)}, true},
		// Names and lists that are none.
		{"a", "a", []same.Step{given(0), apply("f", 0, 0), self("a")}, false},
		{"a", "a", []same.Step{given(0), apply("a", 0), self("a")}, false},
		{"a", "a", []same.Step{given(0), apply("q", 0, 0, 0, 0), self("a")}, true},
		{"a", "a", []same.Step{given(0), apply("q", 0, 0, 0, 0, 0), self("a")}, false},
		{"a", "a", []same.Step{given(0), apply("f", 1), self("a")}, false},
		{"a", "a", []same.Step{given(0), apply("f", 2), self("a")}, false},
		{"a", "a", []same.Step{given(0), apply("f", -1), self("a")}, false},
		{"a", "a", []same.Step{given(0), apply("g", 0, math.MaxInt), self("a")}, false},
		{"a", "a", []same.Step{given(0), apply("g", math.MinInt, 0), self("a")}, false},
		{"a", "a", []same.Step{apply(""), self("a")}, false},
		{"a", "a", []same.Step{apply("X"), self("a")}, false},
		{"a", "a", []same.Step{apply("q(a)"), self("a")}, false},
		{"a", "a", []same.Step{apply("q "), self("a")}, false},
		{"a", "a", []same.Step{apply("q\xff"), self("a")}, false},
		{"a", "a", []same.Step{apply("abcdefghi"), self("a")}, false},
		{"a", "a", []same.Step{apply("abcdefgh"), self("a")}, true},
		{"a", "a", []same.Step{given(0), apply("abcdefgh", 0), self("a")}, true},
		{"a", "a", []same.Step{given(0), apply("abcdefghi", 0), self("a")}, false},
		// Kinds that there are not.
		{"a", "a", []same.Step{{Text: "a"}}, false},
		{"a", "a", []same.Step{{Kind: 6, Text: "a"}}, false},
		{"a", "a", []same.Step{{Kind: -1}, self("a")}, false},
		{"a", "a", []same.Step{{Kind: math.MaxInt}, self("a")}, false},
		{"a", "a", []same.Step{{Kind: math.MinInt}, self("a")}, false},
		// Fields that a kind does not name.
		{"a", "b", []same.Step{{Kind: same.Given, B: -7, Text: "X(", List: []int{9, -9}}}, true},
		{"a", "a", []same.Step{{Kind: same.Self, A: -1, B: 99, Text: "a", List: []int{-5}}}, true},
		{"b", "a", []same.Step{given(0), {Kind: same.Turn, B: 99, Text: "f(f)", List: []int{7}}}, true},
		{"a", "a", []same.Step{self("a"), {Kind: same.Chain, Text: "?", List: []int{0, 0, 0, 0, 0, 0}}}, true},
		{"f(a)", "f(b)", []same.Step{given(0), {Kind: same.Apply, A: -1, B: math.MaxInt, Text: "f", List: []int{0}}}, true},
	} {
		q := question{given: equations, s: x.s, t: x.t}
		steps := append([]same.Step{given(-1)}, x.proof...)
		steps = append(steps, self("X"))[1 : 1+len(x.proof)]
		if is := same.Proves(q.given, q.s, q.t, steps); is != x.is {
			t.Errorf("%v by %v: %v", q, x.proof, is)
		}
		if q.proves(x.proof) != x.is {
			t.Errorf("%v by %v: the definition says %v", q, x.proof, !x.is)
		}
	}
}

// TestSteps changes proofs at random and compares with the definition (P6.2).
func TestSteps(t *testing.T) {
	r := rand.New(rand.NewSource(68))
	yes, no := 0, 0
	for _, q := range chance(69, 3000) {
		proof, ok := same.Prove(q.given, q.s, q.t)
		if !ok || q.s == q.t {
			continue
		}
		terms := within(q.terms()...)
		for range 60 {
			steps := slices.Clone(proof)
			for range 1 + r.Intn(3) {
				at := r.Intn(len(steps))
				step := &steps[at]
				switch r.Intn(8) {
				case 0:
					step.Kind = r.Intn(7)
				case 1:
					step.A = r.Intn(len(steps)+2) - 1
				case 2:
					step.B = r.Intn(len(steps)+2) - 1
				case 3:
					step.Text = terms[r.Intn(len(terms))]
				case 4:
					step.Text = []string{"a", "b", "e", "f", "g", "h", "k", "new"}[r.Intn(8)]
				case 5:
					step.List = append(slices.Clone(step.List), r.Intn(len(steps)+2)-1)
				case 6:
					if n := len(step.List); n > 0 {
						step.List = slices.Clone(step.List)
						step.List[r.Intn(n)] = r.Intn(len(steps)+2) - 1
					}
				case 7:
					steps = append(steps[:at:at], append([]same.Step{steps[r.Intn(len(steps))]}, steps[at:]...)...)
				}
			}
			want := q.proves(steps)
			if same.Proves(q.given, q.s, q.t, steps) != want {
				t.Fatalf("Proves(%v, %v): not %v", q, steps, want)
			}
			if want {
				yes++
			} else {
				no++
			}
		}
	}
	if yes < 1000 || no < 1000 {
		t.Errorf("%d proofs and %d others", yes, no)
	}
}

// TestLargeSteps: terms of proofs may be of any length and depth, those of Self may not (P6.2).
func TestLargeSteps(t *testing.T) {
	proof := []same.Step{given(0)}
	for i := range 3000 {
		proof = append(proof, apply("g", i, i))
	}
	if !same.Proves([][2]string{{"a", "b"}}, "a", "b", append(slices.Clone(proof), given(0))) {
		t.Error("terms with 2^3000 names")
	}
	deep := append(slices.Clone(proof), turn(3000), chain(3000, 3001), chain(3001, 3000), apply("g", 3002, 3003), given(0))
	if !same.Proves([][2]string{{"a", "b"}}, "a", "b", deep) {
		t.Error("terms with 2^3000 names that are the same")
	}
	deep[3002].B = 3000
	if same.Proves([][2]string{{"a", "b"}}, "a", "b", deep) {
		t.Error("terms with 2^3000 names that are not the same")
	}
	for term, want := range map[string]bool{long(2000): true, long(2001): false, nest(20, 0, "a"): true, nest(21, 0, "a"): false} {
		if same.Proves(nil, "a", "a", []same.Step{self(term), self("a")}) != want {
			t.Errorf("Self of %.30s: not %v", term, want)
		}
	}
	// With too many given equations nothing is a proof, nor with terms that are none.
	many := make([][2]string, 101)
	for i := range many {
		many[i] = [2]string{"a", "b"}
	}
	for n, want := range map[int]bool{1: true, 99: true, 100: true, 101: false} {
		if same.Proves(many[:n], "a", "b", []same.Step{given(n - 1)}) != want {
			t.Errorf("%d given equations: not %v", n, want)
		}
	}
	for _, x := range [][2]string{{"X", "X"}, {"", ""}, {long(2001), long(2001)}, {nest(21, 0, "a"), nest(21, 0, "a")}, {"f(f)", "f(f)"}} {
		for _, p := range [][]same.Step{{self(x[0])}, {given(0)}, {self("a"), given(0)}} {
			if same.Proves([][2]string{x}, x[0], x[1], p) || same.Proves([][2]string{{"a", "a"}, x}, "a", "a", append(p, self("a"))) {
				t.Errorf("Proves of %.30s", x[0])
			}
		}
	}
}
