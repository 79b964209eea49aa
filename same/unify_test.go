package same_test

import (
	"math/rand"
	"slices"
	"strings"
	"testing"

	"minikin/api"
	"minikin/same"
)

// clash reports whether two terms that must be the same begin with different names, by the definition: pairs of terms are added as long as there are more that must be the same.
func clash(s, t string) bool {
	all := within(s, t)
	number := map[string]int{}
	for i, u := range all {
		number[u] = i
	}
	var trees []tree
	for _, u := range all {
		trees = append(trees, parse(u))
	}
	must := make([][]bool, len(all))
	for i := range must {
		must[i] = make([]bool, len(all))
		must[i][i] = true
	}
	must[number[s]][number[t]] = true
	for changed := true; changed; {
		changed = false
		add := func(i, j int) {
			changed = changed || !must[i][j]
			must[i][j] = true
		}
		for i, x := range trees {
			for j, y := range trees {
				if !must[i][j] {
					continue
				}
				add(j, i)
				for k := range trees {
					if must[j][k] {
						add(i, k)
					}
				}
				if x.name == y.name {
					for n := range x.parts {
						add(number[x.parts[n].String()], number[y.parts[n].String()])
					}
				}
			}
		}
	}
	for i, x := range trees {
		for j, y := range trees {
			if must[i][j] && !x.variable() && !y.variable() && x.name != y.name {
				return true
			}
		}
	}
	return false
}

// solve unifies terms that do not clash: a variable is taken out of all that is left and all that was found; of two, the later one. It returns false if a variable is within its own term.
func solve(s, t tree) (map[string]tree, bool) {
	found := map[string]tree{}
	open := [][2]tree{{s, t}}
	for len(open) > 0 {
		x, y := open[0][0], open[0][1]
		open = open[1:]
		if !x.variable() && !y.variable() {
			for i := range x.parts {
				open = append(open, [2]tree{x.parts[i], y.parts[i]})
			}
			continue
		}
		if !x.variable() || y.variable() && y.name > x.name {
			x, y = y, x
		}
		if x.name == y.name {
			continue
		}
		inside := false
		y.visit(func(p tree) { inside = inside || p.name == x.name })
		if inside {
			return nil, false
		}
		one := map[string]tree{x.name: y}
		for i := range open {
			open[i] = [2]tree{open[i][0].put(one), open[i][1].put(one)}
		}
		for name, term := range found {
			found[name] = term.put(one)
		}
		found[x.name] = y
	}
	return found, true
}

// unified returns what Unify is to return, by clash and solve.
func unified(s, t string) ([][2]string, api.Errno) {
	if clash(s, t) {
		return nil, api.ErrClash
	}
	found, ok := solve(parse(s), parse(t))
	if !ok {
		return nil, api.ErrCycle
	}
	var out [][2]string
	e := api.OK
	for c := 'A'; c <= 'Z'; c++ {
		term, ok := found[string(c)]
		if !ok {
			continue
		}
		text := term.String()
		if len(text) > 2000 {
			return nil, api.ErrLong
		}
		if term.levels() > 20 {
			e = api.ErrTerm
		}
		out = append(out, [2]string{string(c), text})
	}
	if e != api.OK {
		return nil, e
	}
	return out, api.OK
}

// TestUnify compares with the definition, and checks that what Unify returns unifies, and that twice is no more than once (P6.4, P6.7).
func TestUnify(t *testing.T) {
	r := rand.New(rand.NewSource(73))
	counts := map[api.Errno]int{}
	for range 30000 {
		leaves := []string{"a", "b", "X", "Y", "Z", "U", "V", "W", "A", "Q"}[r.Intn(3):][:3+r.Intn(5)]
		s, u := grow(r, 1+r.Intn(4), leaves...), grow(r, 1+r.Intn(4), leaves...)
		if r.Intn(3) > 0 { // terms of one shape, so that more of them unify
			u = s.alter(r, leaves)
		}
		l, e := same.Unify(s.String(), u.String())
		want, f := unified(s.String(), u.String())
		if !slices.Equal(l, want) || e != f {
			t.Fatalf("Unify(%v, %v): %v, %d, not %v, %d", s, u, l, e, want, f)
		}
		counts[e]++
		if e != api.OK {
			continue
		}
		instead := map[string]tree{}
		for _, pair := range l {
			instead[pair[0]] = parse(pair[1])
		}
		x, e := same.Put(l, s.String())
		y, f := same.Put(l, u.String())
		z, g := same.Put(l, x)
		if x != y || x != z || x != s.put(instead).String() || e != api.OK || f != api.OK || g != api.OK {
			t.Fatalf("Unify(%v, %v): %v: %s, %s, %s, %d, %d, %d", s, u, l, x, y, z, e, f, g)
		}
	}
	for _, e := range []api.Errno{api.OK, api.ErrClash, api.ErrCycle} {
		if counts[e] < 1000 {
			t.Errorf("%d: %d times", e, counts[e])
		}
	}
}

// alter returns t with some of its terms changed.
func (t tree) alter(r *rand.Rand, leaves []string) tree {
	if r.Intn(8) == 0 {
		return grow(r, 1+r.Intn(2), leaves...)
	}
	out := tree{name: t.name}
	for _, p := range t.parts {
		out.parts = append(out.parts, p.alter(r, leaves))
	}
	return out
}

// TestMostGeneral: each substitution that unifies is that of Unify followed by one, and by itself too (P6.4).
func TestMostGeneral(t *testing.T) {
	r := rand.New(rand.NewSource(74))
	ground := []tree{parse("a"), parse("b"), parse("f(a)"), parse("f(b)"), parse("f(f(a))"), parse("g(a,b)"), parse("g(f(a),a)")}
	tried := 0
	for range 1500 {
		s := grow(r, 3, "X", "Y", "Z", "a")
		u := s.alter(r, []string{"X", "Y", "Z", "b"})
		l, e := same.Unify(s.String(), u.String())
		instead := map[string]tree{}
		for _, pair := range l {
			instead[pair[0]] = parse(pair[1])
		}
		for range 200 {
			other := map[string]tree{}
			for _, name := range []string{"X", "Y", "Z"} {
				other[name] = ground[r.Intn(len(ground))]
			}
			if s.put(other).String() != u.put(other).String() {
				continue
			}
			if e != api.OK {
				t.Fatalf("Unify(%v, %v): %d, but %v", s, u, e, other)
			}
			tried++
			for name, term := range other {
				if (tree{name: name}).put(instead).put(other).String() != term.String() {
					t.Fatalf("Unify(%v, %v): %v does not become %v", s, u, l, other)
				}
			}
		}
	}
	if tried < 1000 {
		t.Errorf("%d tried", tried)
	}
}

// TestUnifying: the cases that the chapter names (P6.4).
func TestUnifying(t *testing.T) {
	for _, x := range []struct {
		s, t, want string
		e          api.Errno
	}{
		{"f(X,g(Y))", "f(g(Z),X)", "X=g(Y) Z=Y", api.OK},
		{"X", "f(X)", "", api.ErrCycle},
		{"a", "a", "", api.OK},
		{"X", "X", "", api.OK},
		{"f(X)", "f(X)", "", api.OK},
		{"X", "a", "X=a", api.OK},
		{"a", "X", "X=a", api.OK},
		{"a", "b", "", api.ErrClash},
		{"f(a)", "a", "", api.ErrClash},
		{"f(a)", "f(b)", "", api.ErrClash},
		{"f(a)", "f(f(a))", "", api.ErrClash},
		// Several variables that become the same one.
		{"X", "Y", "Y=X", api.OK},
		{"Y", "X", "Y=X", api.OK},
		{"f(Z,Y,X)", "f(Y,X,W)", "X=W Y=W Z=W", api.OK},
		{"f(A,B,C,D)", "f(B,C,D,A)", "B=A C=A D=A", api.OK},
		{"f(D,C,B)", "f(C,B,Z)", "C=B D=B Z=B", api.OK},
		{"f(Z,A)", "f(A,Z)", "Z=A", api.OK},
		{"f(X,Y,X)", "f(Y,Z,h(W))", "X=h(W) Y=h(W) Z=h(W)", api.OK},
		{"f(X,Y,h(Z))", "f(Y,h(W),X)", "X=h(W) Y=h(W) Z=W", api.OK},
		{"f(X,g(Z))", "f(g(Y),X)", "X=g(Y) Z=Y", api.OK},
		{"f(X,Y,Z)", "f(g(Y),g(Z),a)", "X=g(g(a)) Y=g(a) Z=a", api.OK},
		{"f(Z,Y,X)", "f(g(Y),g(X),W)", "X=W Y=g(W) Z=g(g(W))", api.OK},
		// A third one that two must be the same as.
		{"f(X,X)", "f(a,b)", "", api.ErrClash},
		{"f(X,Y,X)", "f(a,b,Y)", "", api.ErrClash},
		{"f(X,Y,X)", "f(g(a),g(b),Y)", "", api.ErrClash},
		{"f(X,X,Y)", "f(g(Y),g(a),b)", "", api.ErrClash},
		{"f(X,X)", "f(g(Y,b),g(a,Z))", "X=g(a,b) Y=a Z=b", api.OK},
		// Names that stand against each other come before variables that are within their own terms.
		{"f(X,a)", "f(g(X),b)", "", api.ErrClash},
		{"f(a,X)", "f(b,g(X))", "", api.ErrClash},
		{"f(X,X,Y)", "f(g(X),h(Z),a)", "", api.ErrClash},
		{"f(X,X)", "f(g(X,a),g(X,b))", "", api.ErrClash},
		{"f(X,X)", "f(g(X),g(a))", "", api.ErrClash},
		{"f(X,X)", "f(g(X),g(Y))", "", api.ErrCycle},
		{"f(X,Y)", "f(g(Y),g(X))", "", api.ErrCycle},
		{"f(X,Y,Z)", "f(g(Y),g(Z),g(X))", "", api.ErrCycle},
		{"f(X,Y)", "f(Y,g(X))", "", api.ErrCycle},
		{"f(X,g(X))", "f(Y,Y)", "", api.ErrCycle},
		{"h(X)", "h(f(Y,h(X)))", "", api.ErrCycle},
		{"h(X)", "h(h(h(X)))", "", api.ErrCycle},
		{"f(X,X)", "f(Y,h(Y))", "", api.ErrCycle},
		{"f(X,Y)", "f(h(Y),h(a))", "X=h(h(a)) Y=h(a)", api.OK},
		{"k(X,Y,Z,U)", "k(a,b,c,d)", "U=d X=a Y=b Z=c", api.OK},
	} {
		for range 2 {
			l, e := same.Unify(x.s, x.t)
			var got []string
			for _, pair := range l {
				got = append(got, pair[0]+"="+pair[1])
			}
			if strings.Join(got, " ") != x.want || e != x.e {
				t.Errorf("Unify(%s, %s): %v, %d", x.s, x.t, l, e)
			}
			x.s, x.t = x.t, x.s
		}
	}
}

// TestGrounds: terms without variables unify just if they are the same (P6.7).
func TestGrounds(t *testing.T) {
	r := rand.New(rand.NewSource(75))
	for range 3000 {
		s := grow(r, 1+r.Intn(4), "a", "b")
		u := s
		if r.Intn(2) == 0 {
			u = s.alter(r, []string{"a", "b"})
		}
		l, e := same.Unify(s.String(), u.String())
		if len(l) > 0 || (e == api.OK) != (s.String() == u.String()) || e != api.OK && e != api.ErrClash {
			t.Fatalf("Unify(%v, %v): %v, %d", s, u, l, e)
		}
	}
}

// letters returns n variables, from the one after first on.
func letters(first byte, n int) []string {
	var out []string
	for i := range n {
		out = append(out, string(first+byte(i)))
	}
	return out
}

// list returns a term that has all of the terms at its ends.
func list(terms []string) string {
	for len(terms) > 1 {
		var next []string
		for i := 0; i < len(terms); i += 2 {
			next = append(next, "l("+terms[i]+","+terms[min(i+1, len(terms)-1)]+")")
		}
		terms = next
	}
	return terms[0]
}

// TestDoubling: terms that grow twice as large with each variable (P6.4).
func TestDoubling(t *testing.T) {
	for n := 1; n <= 26; n++ {
		for _, deep := range []bool{false, true} {
			// The variable number i is twice the next one, or once, and the last one is a.
			left, right := letters('A', n), []string{}
			for i := range n {
				switch {
				case i == n-1:
					right = append(right, "a")
				case deep:
					right = append(right, "f("+left[i+1]+")")
				default:
					right = append(right, "g("+left[i+1]+","+left[i+1]+")")
				}
			}
			want := api.OK
			size := 1 // of the first variable's term
			for range n - 1 {
				if deep {
					size += 3
				} else {
					size = 2*size + 4
				}
			}
			if size > 2000 {
				want = api.ErrLong
			} else if n > 20 {
				want = api.ErrTerm
			}
			l, e := same.Unify(list(left), list(right))
			if e != want || e == api.OK && (len(l) != n || len(l[0][1]) != size) || e != api.OK && len(l) > 0 {
				t.Errorf("%d, %v: %d, %d, not %d", n, deep, len(l), e, want)
			}
		}
	}
	// With 26 variables and as many as there can be in each term, lengths are beyond all numbers.
	left, right := letters('A', 26), []string{}
	for i := range 25 {
		next := left[i+1]
		right = append(right, "k("+strings.Repeat(next+",", 3)+"k("+strings.Repeat(next+",", 3)+"k("+strings.Repeat(next+",", 3)+next+")))")
	}
	if l, e := same.Unify(list(left), list(append(right, "a"))); len(l) > 0 || e != api.ErrLong {
		t.Errorf("%d, %d", len(l), e)
	}
	if l, e := same.Unify(list(left), list(append(right, "k(A,a,a,a)"))); len(l) > 0 || e != api.ErrCycle {
		t.Errorf("%d, %d", len(l), e)
	}
}

// TestUnifiedLimits: the terms of a substitution have at most 2000 bytes and 20 levels, whatever s and t become (P6.4).
func TestUnifiedLimits(t *testing.T) {
	for _, x := range []struct {
		s, t string
		e    api.Errno
	}{
		{"X", long(2000), api.OK},
		{"l(X,Y)", "l(" + long(990) + ",m(X,X))", api.OK},        // 1984
		{"l(X,Y)", "l(" + long(998) + ",m(X,X))", api.OK},        // 2000
		{"l(X,Y)", "l(" + long(999) + ",m(X,X))", api.ErrLong},   // 2002
		{"l(X,Y)", "l(" + long(998) + ",m(X,X,a))", api.ErrLong}, // 2002
		{"m(X,X)", "m(" + long(1500) + ",X)", api.OK},            // m of both has more
		{"X", nest(20, 0, "a"), api.OK},
		{"f(X)", nest(20, 0, "a"), api.OK},
		{"l(X,Y)", "l(" + nest(19, 0, "a") + ",f(X))", api.OK},
		{"l(X,Y)", "l(" + nest(19, 0, "a") + ",f(f(X)))", api.ErrTerm},
		{"l(X," + nest(19, 0, "X") + ")", "l(f(f(a)),Y)", api.ErrTerm},
		{"l(X," + nest(19, 0, "X") + ")", "l(f(a),Y)", api.OK},
		// Too many bytes come before too many levels, whichever variable has them.
		{"h(X,Y,Z)", "h(" + nest(18, 0, "a") + ",f(f(f(X))),Y)", api.ErrTerm},
		{"k(X,Y,Z,V)", "k(" + nest(18, 0, "a") + ",f(f(f(X)))," + long(1001) + ",l(Z,Z))", api.ErrLong},
		{"k(Z,V,X,Y)", "k(" + nest(18, 0, "a") + ",f(f(f(Z)))," + long(1001) + ",l(X,X))", api.ErrLong},
	} {
		for range 2 {
			l, e := same.Unify(x.s, x.t)
			if e != x.e || e != api.OK && len(l) > 0 {
				t.Errorf("Unify(%.60s, %.60s): %d, not %d", x.s, x.t, e, x.e)
			}
			if want, f := unified(x.s, x.t); !slices.Equal(l, want) || e != f {
				t.Errorf("Unify(%.60s, %.60s): %d terms, %d, not %d, %d", x.s, x.t, len(l), e, len(want), f)
			}
			x.s, x.t = x.t, x.s
		}
	}
}

// TestPut: what Put makes, and what is no substitution (P6.4).
func TestPut(t *testing.T) {
	for _, x := range []struct {
		list    string
		t, want string
		e       api.Errno
	}{
		{"", "f(X,a)", "f(X,a)", api.OK},
		{"X=a", "f(X,Y)", "f(a,Y)", api.OK},
		{"X=a", "X", "a", api.OK},
		{"X=a", "b", "b", api.OK},
		{"X=Y", "f(X,Y)", "f(Y,Y)", api.OK},
		// All at once.
		{"X=Y Y=X", "f(X,Y)", "f(Y,X)", api.OK},
		{"X=Y Y=a", "f(X,Y)", "f(Y,a)", api.OK},
		{"X=f(X,X)", "f(X,g(X))", "f(f(X,X),g(f(X,X)))", api.OK},
		{"X=X", "X", "X", api.OK},
		{"A=g(B) B=g(C) Z=g(A)", "k(Z,B,A,C)", "k(g(A),g(C),g(B),C)", api.OK},
		{"A=a Z=z", "l(Z,A)", "l(z,a)", api.OK},
		// A first element that is no variable.
		{"x=a", "X", "", api.ErrArg},
		{"=a", "X", "", api.ErrArg},
		{"XY=a", "X", "", api.ErrArg},
		{"f(X)=a", "f(X)", "", api.ErrArg},
		{"A=a x=a", "X", "", api.ErrArg},
		{"A=a @=a", "X", "", api.ErrArg},
		{"[=a", "X", "", api.ErrArg},
		{"@=a", "X", "", api.ErrArg},
		{"1=a", "X", "", api.ErrArg},
		{"X\x00=a", "X", "", api.ErrArg},
		{"É=a", "X", "", api.ErrArg},
		{"\xff=a", "X", "", api.ErrArg},
		{"X=a Y", "X", "", api.ErrTerm},
		// Variables that are not rising.
		{"X=a X=a", "X", "", api.ErrArg},
		{"Y=a X=a", "X", "", api.ErrArg},
		{"A=a Z=b B=c", "X", "", api.ErrArg},
		{"A=a B=b B=b C=c", "a", "", api.ErrArg},
		{"B=a A=a C=a", "a", "", api.ErrArg},
	} {
		var l [][2]string
		for _, g := range strings.Fields(x.list) {
			name, term, _ := strings.Cut(g, "=")
			l = append(l, [2]string{name, term})
		}
		l = append(l, [2]string{"?", "?"})
		before := slices.Clone(l)
		if s, e := same.Put(l[:len(l)-1], x.t); s != x.want || e != x.e || !slices.Equal(l, before) {
			t.Errorf("Put(%s, %s): %s, %d", x.list, x.t, s, e)
		}
	}
	r := rand.New(rand.NewSource(76))
	for range 5000 {
		var l [][2]string
		instead := map[string]tree{}
		for _, name := range letters('U', 6) {
			if r.Intn(2) == 0 {
				instead[name] = grow(r, 1+r.Intn(3), "a", "b", "U", "V", "W", "X", "Y", "Z")
				l = append(l, [2]string{name, instead[name].String()})
			}
		}
		s := grow(r, 1+r.Intn(4), "a", "U", "V", "W", "X", "Y", "Z")
		want := s.put(instead)
		if len(want.String()) > 2000 || want.levels() > 20 {
			continue
		}
		if got, e := same.Put(l, s.String()); got != want.String() || e != api.OK {
			t.Fatalf("Put(%v, %v): %s, %d, not %v", l, s, got, e, want)
		}
	}
}

// TestPutLimits: results of 2000 bytes and 20 levels, and larger ones (P6.4).
func TestPutLimits(t *testing.T) {
	every := func(term string) [][2]string {
		var out [][2]string
		for _, name := range letters('A', 26) {
			out = append(out, [2]string{name, term})
		}
		return out
	}
	for _, x := range []struct {
		term, t string
		e       api.Errno
	}{
		{long(2000), "X", api.OK},
		{long(1997), "f(X)", api.OK},
		{long(1998), "f(X)", api.ErrLong},
		{long(1000), "l(X,X)", api.ErrLong},
		{long(998), "l(X,X)", api.OK},
		{long(999), "l(X,X)", api.ErrLong},
		{nest(20, 0, "a"), "X", api.OK},
		{nest(19, 0, "a"), "f(X)", api.OK},
		{nest(20, 0, "a"), "f(X)", api.ErrTerm},
		{nest(20, 0, "a"), "f(a)", api.OK},
		{"f(a)", nest(19, 0, "X"), api.OK},
		{"f(a)", nest(20, 0, "X"), api.ErrTerm},
		{"X", nest(20, 0, "X"), api.OK},
		{"f(f(a))", "l(a," + nest(18, 0, "X") + ")", api.ErrTerm},
		{"f(f(a))", "l(a," + nest(17, 0, "X") + ")", api.OK},
		// Too many bytes come before too many levels.
		{"l(" + long(1900) + "," + nest(19, 0, "a") + ")", "h(X,X,X)", api.ErrLong},
		{long(2000), list(letters('A', 26)), api.ErrLong},
		{"b", list(letters('A', 26)), api.OK},
	} {
		got, e := same.Put(every(x.term), x.t)
		want := ""
		if x.e == api.OK {
			instead := map[string]tree{}
			for _, name := range letters('A', 26) {
				instead[name] = parse(x.term)
			}
			want = parse(x.t).put(instead).String()
		}
		if got != want || e != x.e {
			t.Errorf("Put(%.40s, %.40s): %d bytes, %d, not %d", x.term, x.t, len(got), e, x.e)
		}
	}
	// More pairs than there are variables cannot rise.
	if s, e := same.Put(append(every("a"), every("b")...), "X"); s != "" || e != api.ErrArg {
		t.Errorf("52 pairs: %s, %d", s, e)
	}
}
