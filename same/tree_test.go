package same_test

import (
	"math/rand"
	"regexp"
	"slices"
	"strings"

	"minikin/same"
)

// tree is a term by its definition.
type tree struct {
	name  string
	parts []tree
}

func (t tree) String() string {
	if len(t.parts) == 0 {
		return t.name
	}
	var parts []string
	for _, p := range t.parts {
		parts = append(parts, p.String())
	}
	return t.name + "(" + strings.Join(parts, ",") + ")"
}

// parse returns the tree of a term.
func parse(term string) tree {
	open := strings.IndexByte(term, '(')
	if open < 0 {
		return tree{name: term}
	}
	t := tree{name: term[:open]}
	level, from := 0, open+1
	for i := open + 1; i < len(term); i++ {
		switch c := term[i]; {
		case level == 0 && (c == ',' || c == ')'):
			t.parts = append(t.parts, parse(term[from:i]))
			from = i + 1
		case c == '(':
			level++
		case c == ')':
			level--
		}
	}
	return t
}

func (t tree) levels() int {
	most := 0
	for _, p := range t.parts {
		most = max(most, p.levels())
	}
	return 1 + most
}

// isTerm reports whether text is a term without variables, whatever the numbers of terms in brackets are.
func isTerm(text string) bool {
	t := parse(text)
	ok := t.String() == text && len(text) <= 2000 && t.levels() <= 20
	t.visit(func(t tree) { ok = ok && isName.MatchString(t.name) && len(t.parts) <= 4 })
	return ok
}

// isName matches names.
var isName = regexp.MustCompile("^[a-z]{1,8}$")

// visit calls see for t and all terms within it, the parts first.
func (t tree) visit(see func(tree)) {
	for _, p := range t.parts {
		p.visit(see)
	}
	see(t)
}

// variable reports whether t is one.
func (t tree) variable() bool {
	return t.name[0] < 'a'
}

// put returns t with terms in the places of variables.
func (t tree) put(instead map[string]tree) tree {
	if other, ok := instead[t.name]; ok {
		return other
	}
	out := tree{name: t.name}
	for _, p := range t.parts {
		out.parts = append(out.parts, p.put(instead))
	}
	return out
}

// grow returns a random term of at most that many levels; leaves are names, and perhaps variables, without brackets.
func grow(r *rand.Rand, levels int, leaves ...string) tree {
	count := r.Intn(4)
	if r.Intn(16) == 0 {
		count = 4
	}
	if levels == 1 || count == 0 {
		return tree{name: leaves[r.Intn(len(leaves))]}
	}
	t := tree{name: []string{"f", "g", "h", "k"}[count-1]}
	if count == 1 && r.Intn(3) == 0 {
		t.name = "e"
	}
	for range count {
		t.parts = append(t.parts, grow(r, levels-1, leaves...))
	}
	return t
}

// question is what calls are asked.
type question struct {
	given [][2]string
	s, t  string
}

// ask returns a random question of few small terms, so that much follows.
func ask(r *rand.Rand, equations, levels int) question {
	leaves := []string{"a", "b", "c", "d"}[:1+r.Intn(4)]
	term := func() string { return grow(r, 1+r.Intn(levels), leaves...).String() }
	q := question{s: term(), t: term()}
	for range r.Intn(equations + 1) {
		q.given = append(q.given, [2]string{term(), term()})
	}
	return q
}

// terms returns all terms of q, in order.
func (q question) terms() []string {
	var out []string
	for _, g := range q.given {
		out = append(out, g[0], g[1])
	}
	return append(out, q.s, q.t)
}

// within returns terms and all those within them, each once.
func within(terms ...string) []string {
	var out []string
	for _, term := range terms {
		parse(term).visit(func(t tree) {
			if s := t.String(); !slices.Contains(out, s) {
				out = append(out, s)
			}
		})
	}
	return out
}

// names returns the numbers of terms in brackets that the names of terms have.
func names(terms ...string) map[string]int {
	out := map[string]int{}
	for _, term := range terms {
		parse(term).visit(func(t tree) { out[t.name] = len(t.parts) })
	}
	return out
}

// classes returns a number for each class of the terms and those within, which are joined as long as the definition of proofs makes two of them equal.
func classes(given [][2]string, terms ...string) map[string]int {
	all := within(append(question{given: given}.terms()[:2*len(given)], terms...)...)
	number := map[string]int{}
	for i, s := range all {
		number[s] = i
	}
	changed := true
	join := func(s, t string) {
		from, to := number[s], number[t]
		for _, u := range all {
			if number[u] == from && from != to {
				number[u], changed = to, true
			}
		}
	}
	for changed {
		changed = false
		for _, g := range given {
			join(g[0], g[1])
		}
		for _, s := range all {
			for _, t := range all {
				x, y := parse(s), parse(t)
				if x.name == y.name && slices.EqualFunc(x.parts, y.parts, func(p, q tree) bool { return number[p.String()] == number[q.String()] }) {
					join(s, t)
				}
			}
		}
	}
	return number
}

// follows reports whether s = t follows, by classes.
func follows(given [][2]string, s, t string) bool {
	number := classes(given, s, t)
	return number[s] == number[t]
}

// proves reports whether proof is a proof of q's equation, by the definition.
func (q question) proves(proof []same.Step) bool {
	var done [][2]string
	counts := names(q.terms()...)
	fits := func(t tree) bool {
		n, ok := counts[t.name]
		counts[t.name] = len(t.parts)
		return !ok || n == len(t.parts)
	}
	for i, step := range proof {
		earlier := func(at int) bool { return at >= 0 && at < i }
		switch step.Kind {
		case same.Given:
			if step.A < 0 || step.A >= len(q.given) {
				return false
			}
			done = append(done, q.given[step.A])
		case same.Self:
			ok := isTerm(step.Text)
			parse(step.Text).visit(func(t tree) { ok = fits(t) && ok })
			if !ok {
				return false
			}
			done = append(done, [2]string{step.Text, step.Text})
		case same.Turn:
			if !earlier(step.A) {
				return false
			}
			done = append(done, [2]string{done[step.A][1], done[step.A][0]})
		case same.Chain:
			if !earlier(step.A) || !earlier(step.B) || done[step.A][1] != done[step.B][0] {
				return false
			}
			done = append(done, [2]string{done[step.A][0], done[step.B][1]})
		case same.Apply:
			left, right := tree{name: step.Text}, tree{name: step.Text}
			for _, at := range step.List {
				if !earlier(at) {
					return false
				}
				left.parts = append(left.parts, tree{name: done[at][0]})
				right.parts = append(right.parts, tree{name: done[at][1]})
			}
			if !isName.MatchString(step.Text) || len(step.List) > 4 || !fits(left) {
				return false
			}
			done = append(done, [2]string{left.String(), right.String()})
		default:
			return false
		}
	}
	return len(done) > 0 && done[len(done)-1] == [2]string{q.s, q.t}
}

// parts reports whether m parts q's equation from the given ones, by the definition.
func (q question) parts(m same.Model) bool {
	counts := names(q.terms()...)
	if m.Size < 1 || len(m.Tables) != len(counts) {
		return false
	}
	tables := map[string]same.Table{}
	for _, t := range m.Tables {
		count, ok := counts[t.Name]
		size := 1
		for range count {
			size *= m.Size
		}
		if !ok || t.Arity != count || len(t.Values) != size || slices.Min(t.Values) < 0 || slices.Max(t.Values) >= m.Size {
			return false
		}
		tables[t.Name] = t
	}
	if len(tables) < len(counts) {
		return false
	}
	var value func(t tree) int
	value = func(t tree) int {
		at := 0
		for _, p := range t.parts {
			at = at*m.Size + value(p)
		}
		return tables[t.name].Values[at]
	}
	for _, g := range q.given {
		if value(parse(g[0])) != value(parse(g[1])) {
			return false
		}
	}
	return value(parse(q.s)) != value(parse(q.t))
}
