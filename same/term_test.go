package same_test

import (
	"slices"
	"strings"
	"testing"

	"minikin/api"
	"minikin/same"
)

// nest returns a term of that many levels, and of bytes bytes if there are enough of them.
func nest(levels, bytes int, leaf string) string {
	term := strings.Repeat("f(", levels-1) + leaf + strings.Repeat(")", levels-1)
	if more := bytes - len(term); more > 0 {
		term = strings.Replace(term, leaf, strings.Repeat("c", min(8, more+1)), 1)
	}
	return term
}

// long returns a term of n bytes, from 1000 on, with few levels.
func long(n int) string {
	var wide func(leaves int) string
	wide = func(leaves int) string {
		if leaves == 1 {
			return "c"
		}
		return "g(" + wide(leaves/2) + "," + wide(leaves-leaves/2) + ")"
	}
	term := wide(n / 6)
	for ; len(term) < n; term = strings.Replace(term, "c", "d", 1) {
		more := min(7, n-len(term))
		term = strings.Replace(term, "c", strings.Repeat("d", more+1), 1)
	}
	return term
}

// outcome checks that all calls with given equations return want, and nothing else, if it is no OK.
func outcome(t *testing.T, want api.Errno, given [][2]string, s, u string) {
	t.Helper()
	short := func(l ...string) string {
		text := strings.Join(l, " ")
		return text[:min(len(text), 100)]
	}
	what := short(append(slices.Clone(question{given: given}.terms()[:2*len(given)]), s, u)...)
	is, e := same.Same(given, s, u)
	if e != want || want != api.OK && is {
		t.Errorf("Same of %s: %v, %d, not %d", what, is, e, want)
	}
	l, e := same.Classes(given, []string{s, u})
	if e != want || want != api.OK && len(l) > 0 {
		t.Errorf("Classes of %s: %v, %d, not %d", what, l, e, want)
	}
	l, e = same.Core(given, s, u)
	if e != want && (want != api.OK || e != api.ErrArg) || e != api.OK && len(l) > 0 {
		t.Errorf("Core of %s: %v, %d, not %d", what, l, e, want)
	}
	proof, proved := same.Prove(given, s, u)
	m, parted := same.Part(given, s, u)
	if want != api.OK && (proved || parted) || !proved && len(proof) > 0 || !parted && (m.Size != 0 || len(m.Tables) > 0) {
		t.Errorf("Prove and Part of %s: %v, %v, %v, %v", what, proof, proved, m, parted)
	}
	if want == api.OK {
		if proved == parted && len(what) < 60 {
			t.Errorf("Prove and Part of %s: both %v", what, proved)
		}
		return
	}
	if same.Proves(given, s, u, []same.Step{{Kind: same.Self, Text: s}}) || same.Proves(given, s, u, []same.Step{{Kind: same.Given}}) {
		t.Errorf("Proves of %s", what)
	}
}

// refused checks that all calls return want for a term, wherever it stands.
func refused(t *testing.T, term string, want api.Errno) {
	t.Helper()
	short := term[:min(len(term), 60)]
	if e := same.Check(term); e != want {
		t.Errorf("Check(%q): %d, not %d", short, e, want)
	}
	outcome(t, want, nil, term, "a")
	outcome(t, want, nil, "a", term)
	outcome(t, want, nil, term, term)
	outcome(t, want, [][2]string{{term, "a"}}, "a", "a")
	outcome(t, want, [][2]string{{"a", term}}, "a", "a")
	outcome(t, want, [][2]string{{"a", "b"}, {"b", "c"}, {"c", term}}, "a", "b")
	if same.Proves(nil, "a", "a", []same.Step{{Kind: same.Self, Text: term}, {Kind: same.Self, Text: "a"}}) != (want == api.OK) {
		t.Errorf("Proves with %q", short)
	}
}

// unfit checks that Unify and Put return want for a term, wherever it stands.
func unfit(t *testing.T, term string, want api.Errno) {
	t.Helper()
	short := term[:min(len(term), 60)]
	for i, do := range []func() ([][2]string, api.Errno){
		func() ([][2]string, api.Errno) { return same.Unify(term, "V") },
		func() ([][2]string, api.Errno) { return same.Unify("V", term) },
		func() ([][2]string, api.Errno) { return same.Unify(term, term) },
	} {
		if l, e := do(); e != want || e != api.OK && len(l) > 0 {
			t.Errorf("Unify %d of %q: %v, %d, not %d", i, short, l, e, want)
		}
	}
	for i, do := range []func() (string, api.Errno){
		func() (string, api.Errno) { return same.Put(nil, term) },
		func() (string, api.Errno) { return same.Put([][2]string{{"V", "b"}}, term) },
		func() (string, api.Errno) { return same.Put([][2]string{{"V", term}}, "b") },
		func() (string, api.Errno) { return same.Put([][2]string{{"V", "a"}, {"W", term}}, "W") },
	} {
		if s, e := do(); e != want || e != api.OK && s != "" {
			t.Errorf("Put %d of %q: %.60s, %d, not %d", i, short, s, e, want)
		}
	}
}

// TestShortTexts goes through all texts of up to 7 bytes: just those that the definition makes are terms (P6.1).
func TestShortTexts(t *testing.T) {
	const letters = "afX"
	made := [][]string{nil}
	for n := 1; n <= 7; n++ {
		lists := [5][][]string{{{""}}} // by the number of terms and the bytes of all: lists of terms with a mark after each
		for count := 1; count <= 4; count++ {
			lists[count] = make([][]string, n+1)
			for bytes := range n + 1 {
				for last := 1; last < bytes && last < n; last++ {
					if before := bytes - last - 1; before < len(lists[count-1]) {
						for _, l := range lists[count-1][before] {
							for _, term := range made[last] {
								lists[count][bytes] = append(lists[count][bytes], l+term+",")
							}
						}
					}
				}
			}
		}
		var list []string
		namesOf := []string{""}
		for size := 1; size <= n; size++ {
			var next []string
			for _, name := range namesOf {
				next = append(next, name+"a", name+"f")
			}
			namesOf = next
			for _, name := range namesOf {
				if size == n {
					list = append(list, name)
				}
				for count := 1; count <= 4 && n > size; count++ {
					for _, l := range lists[count][n-size-1] {
						list = append(list, name+"("+l[:len(l)-1]+")")
					}
				}
			}
		}
		if n == 1 {
			list = append(list, "X")
		}
		made = append(made, list)
	}
	want := map[string]api.Errno{} // of texts that are terms
	for _, list := range made {
		for _, term := range list {
			if _, twice := want[term]; twice {
				t.Fatalf("%q twice", term)
			}
			want[term] = api.OK
			counts := map[string]int{}
			parse(term).visit(func(x tree) {
				if count, ok := counts[x.name]; ok && count != len(x.parts) {
					want[term] = api.ErrArity
				}
				counts[x.name] = len(x.parts)
			})
		}
	}
	var try func(text string)
	try = func(text string) {
		free, ok := want[text]
		if !ok {
			free = api.ErrTerm
		}
		closed := free
		if strings.Contains(text, "X") {
			closed = api.ErrTerm
		}
		if e := same.Check(text); e != closed {
			t.Fatalf("Check(%q): %d, not %d", text, e, closed)
		}
		if out, e := same.Put(nil, text); e != free || e == api.OK && out != text || e != api.OK && out != "" {
			t.Fatalf("Put(%q): %q, %d, not %d", text, out, e, free)
		}
		if len(text) < 7 {
			for _, c := range letters + "(,)" {
				try(text + string(c))
			}
		}
	}
	try("")
}

// TestNearlyTerms: what is nearly a term is none (P6.1).
func TestNearlyTerms(t *testing.T) {
	for _, term := range []string{
		"", " ", "a ", " a", "a\n", "a\x00", "\x00", "\xff", "a\xff", "A", "X", "Xa", "aX", "X(a)", "f(X)", "f(a,X)", "f(XY)", "f(g(Z))", "é", "aé", "ａ", "а", "a1", "1", "a_", "_", "`", "{", "a{", "[", "@", "f[a]", "f{a}",
		"f(", "f()", "f(a", "f(a,", "f(a,)", "f(,a)", "f(,)", "f(a))", "f(a)a", "f(a)(b)", "f(a)(", "f(a),", "f(a),b", "a,b", ",", "(", ")", "()", "(a)", ",a", "a,", "a)", "f((a))", "f(a,(b))", "f(a,,b)", "f( a)", "f(a, b)", "f (a)", "f(a;b)", "f(a.b)", "f(a)b(c)", "f(a)X", "f(a b)", "f(g(a)", "f(g(a,b)", "f(a\xffb)",
		"f(a,b,c,d,e)", "f(a,b,c,d,", "f(a,b,c,d,)", "f(a,b,c,g(d),e)", "f(a,b,c,d,e,f)", "g(f(a,b,c,d,e))",
		"abcdefghi", "abcdefghi(a)", "f(abcdefghi)", "f(a,abcdefghi)", strings.Repeat("a", 2000), strings.Repeat("f(", 1000), strings.Repeat(")", 2000), strings.Repeat("X", 2000), strings.Repeat("a,", 1000),
		nest(21, 0, "a"), nest(21, 43, "a"), nest(22, 0, "a"), nest(667, 0, "a"), "g(a," + nest(20, 0, "a") + ")", "g(" + nest(20, 0, "a") + ",a)", nest(20, 0, "a()"), nest(20, 0, "A"), nest(20, 0, "f(a)"),
	} {
		refused(t, term, api.ErrTerm)
	}
	for _, term := range []string{
		"", "XY", "Xa", "aX", "X()", "X(a)", "f(XY)", "f(X", "f(X,)", "f(Xa)", "f(X(a))", "Á", "[", "@", "X,Y", "XX", "f(X)X", "X f", "X ", "f(X,Y,Z,U,V)", "abcdefghi", nest(21, 0, "X"), nest(21, 0, "a"), "g(X," + nest(20, 0, "X") + ")",
	} {
		unfit(t, term, api.ErrTerm)
	}
}

// TestLimits: terms that are just small enough, and some that are not (P6.1).
func TestLimits(t *testing.T) {
	for _, term := range []string{"a", "z", "az", "abcdefgh", "zzzzzzzz", "f(a)", "f(a,a,a,a)", "abcdefgh(zyxwvuts)", "f(k(a,a,a,a),k(a,a,a,a),a,b)", nest(20, 0, "a"), nest(20, 46, "a"), "k(a,a,a," + nest(19, 0, "a") + ")", "k(" + nest(19, 0, "a") + ",a,a,a)", long(1999), long(2000)} {
		refused(t, term, api.OK)
		unfit(t, term, api.OK)
	}
	for _, term := range []string{"X", "f(X)", "A", "Z", "f(A,Z,A,a)", nest(20, 0, "X"), "k(X,Y,Z," + nest(19, 0, "X") + ")"} {
		unfit(t, term, api.OK)
	}
	// The error of length comes first, whatever the text is.
	for _, term := range []string{long(2001), long(2002), strings.Repeat("a", 2001), strings.Repeat("f(", 1001), strings.Repeat(" ", 2001), strings.Repeat("X", 2001), strings.Repeat("é", 1001), nest(700, 0, "a"), strings.Repeat("a", 1<<20)} {
		refused(t, term, api.ErrLong)
		unfit(t, term, api.ErrLong)
	}
	if n := len(long(2000)); n != 2000 || parse(long(2000)).levels() > 20 {
		t.Errorf("long: %d", n)
	}
}

// TestUneven: names with different numbers of terms, in one term and in several of a call (P6.1).
func TestUneven(t *testing.T) {
	for _, term := range []string{"f(f)", "f(a,f)", "f(f,a)", "f(f(a,a))", "g(f(a),f(a,a))", "g(f(a,a),f(a))", "g(f,f(a))", "h(f(a),g(f(a)),f(b,a))", "f(a,a(a))", "k(a,a,a,k(a,a,a))", "g(f(a,b,c),f(a,b,c,d))"} {
		refused(t, term, api.ErrArity)
		unfit(t, term, api.ErrArity)
	}
	for _, x := range [][2]string{{"f(a)", "f(a,a)"}, {"f", "f(a)"}, {"g(b,f(a))", "f(a,a)"}, {"k(a,b,c,d)", "h(k(a,b,c),a)"}, {"d", "e(d(e(c)))"}} {
		for _, x := range [][2]string{x, {x[1], x[0]}} {
			refused(t, x[0], api.OK)
			outcome(t, api.ErrArity, nil, x[0], x[1])
			outcome(t, api.ErrArity, [][2]string{{x[0], x[1]}}, "m", "m")
			outcome(t, api.ErrArity, [][2]string{{"m", x[0]}}, "m", x[1])
			outcome(t, api.ErrArity, [][2]string{{x[0], "m"}}, x[1], "m")
			outcome(t, api.ErrArity, [][2]string{{"m", "n"}, {x[0], "m"}, {"n", x[1]}}, "m", "m")
			if l, e := same.Classes(nil, []string{"m", x[0], "m", x[1]}); len(l) > 0 || e != api.ErrArity {
				t.Errorf("Classes of %v: %v, %d", x, l, e)
			}
			if l, e := same.Unify(x[0], x[1]); len(l) > 0 || e != api.ErrArity {
				t.Errorf("Unify of %v: %v, %d", x, l, e)
			}
			for _, p := range []struct {
				list [][2]string
				t    string
			}{{[][2]string{{"X", x[0]}}, x[1]}, {[][2]string{{"X", x[0]}, {"Y", x[1]}}, "m"}, {[][2]string{{"X", "m"}, {"Y", x[0]}}, x[1]}} {
				if s, e := same.Put(p.list, p.t); s != "" || e != api.ErrArity {
					t.Errorf("Put of %v: %s, %d", p, s, e)
				}
			}
		}
	}
}

// TestNumbers: 100 given equations and terms, and one more (P6.1, P6.3).
func TestNumbers(t *testing.T) {
	many := make([][2]string, 101)
	for i := range many {
		many[i] = [2]string{"f(a)", "a"}
	}
	terms := make([]string, 101)
	for i := range terms {
		terms[i] = "f(a)"
	}
	outcome(t, api.OK, many[:100], "f(f(a))", "a")
	outcome(t, api.ErrLong, many, "f(f(a))", "a")
	outcome(t, api.ErrLong, append(many, many...), "a", "a")
	if l, e := same.Classes(many[:100], terms[:100]); !slices.Equal(l, make([]int, 100)) || e != api.OK {
		t.Errorf("Classes: %v, %d", l, e)
	}
	for _, given := range [][][2]string{nil, many[:100], many} {
		if l, e := same.Classes(given, terms); len(l) > 0 || e != api.ErrLong {
			t.Errorf("Classes of %d: %v, %d", len(given), l, e)
		}
	}
	if l, e := same.Classes(many[:1], nil); len(l) > 0 || e != api.OK {
		t.Errorf("Classes of nothing: %v, %d", l, e)
	}
	// The number of equations comes before all that they are.
	for _, bad := range []string{"X", long(2001), "f(f)", ""} {
		wrong := slices.Clone(many)
		wrong[0][0] = bad
		outcome(t, api.ErrLong, wrong, "a", "a")
		outcome(t, api.ErrLong, many, bad, "a")
		if l, e := same.Classes(many[:3], append(terms[:100:100], bad)); len(l) > 0 || e != api.ErrLong {
			t.Errorf("Classes with %.20s: %v, %d", bad, l, e)
		}
	}
}

// TestFirstError: the first term with an error decides, and names that do not fit come last (P6.1).
func TestFirstError(t *testing.T) {
	big, bad := long(2001), "f("
	for _, x := range []struct {
		terms [4]string
		want  api.Errno
	}{
		{[4]string{big, bad, "a", "a"}, api.ErrLong}, {[4]string{bad, big, "a", "a"}, api.ErrTerm}, {[4]string{"a", big, bad, "a"}, api.ErrLong}, {[4]string{"a", bad, big, "a"}, api.ErrTerm},
		{[4]string{"a", "a", bad, big}, api.ErrTerm}, {[4]string{"a", "a", big, bad}, api.ErrLong}, {[4]string{"a", big, "a", bad}, api.ErrLong}, {[4]string{bad, "a", "a", big}, api.ErrTerm},
		{[4]string{"f(f)", "a", "a", big}, api.ErrLong}, {[4]string{"f(f)", "a", "a", bad}, api.ErrTerm}, {[4]string{"f(a)", "f", bad, "a"}, api.ErrTerm}, {[4]string{"f(a)", "f", "a", big}, api.ErrLong},
		{[4]string{"f(a)", "a", "b", "f"}, api.ErrArity}, {[4]string{"a", "b", "f(f)", "b"}, api.ErrArity},
	} {
		outcome(t, x.want, [][2]string{{x.terms[0], x.terms[1]}}, x.terms[2], x.terms[3])
		if l, e := same.Classes(nil, x.terms[:]); len(l) > 0 || e != x.want {
			t.Errorf("Classes: %v, %d, not %d", l, e, x.want)
		}
		// Put's terms come before t and before its variables.
		for _, names := range [][3]string{{"X", "Y", "Z"}, {"X", "X", "Y"}, {"Z", "Y", "X"}, {"x", "", "XX"}} {
			l := [][2]string{{names[0], x.terms[0]}, {names[1], x.terms[1]}, {names[2], x.terms[2]}}
			if s, e := same.Put(l, x.terms[3]); s != "" || e != x.want {
				t.Errorf("Put of %v: %s, %d, not %d", names, s, e, x.want)
			}
		}
	}
	for _, x := range []struct {
		s, t string
		want api.Errno
	}{{big, bad, api.ErrLong}, {bad, big, api.ErrTerm}, {"f(f)", bad, api.ErrTerm}, {"f(f)", big, api.ErrLong}, {"f(X)", "f", api.ErrArity}, {"g(f(X),X)", "h(f)", api.ErrArity}} {
		if l, e := same.Unify(x.s, x.t); len(l) > 0 || e != x.want {
			t.Errorf("Unify: %v, %d, not %d", l, e, x.want)
		}
	}
	// A term that has an error decides before s = t is found not to follow.
	if l, e := same.Core(nil, "f(a)", "f(a,b)"); len(l) > 0 || e != api.ErrArity {
		t.Errorf("Core: %v, %d", l, e)
	}
}
