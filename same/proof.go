package same

import (
	"slices"

	"minikin/api"
)

// Prove returns a proof of s = t from the given equations, and true, or false if there is none.
func Prove(given [][2]string, s, t string) ([]Step, bool) {
	m, e := lay(given, s, t)
	if e != api.OK {
		return nil, false
	}
	c := m.closed()
	if !c.ask() {
		return nil, false
	}
	return c.proof(m.asked[0], m.asked[1]), true
}

// basis returns the things on whose links it rests that x and y are the same, in the order of their links.
func (c *closure) basis(x, y int) []int {
	links := c.classes.links
	asked := make([]bool, len(links))
	ask := func(x, y int) {
		top := c.classes.meet(x, y)
		for _, from := range [2]int{x, y} {
			for ; from != top; from = links[from].up {
				asked[from] = true
			}
		}
	}
	ask(x, y)
	var out []int
	for _, thing := range slices.Backward(c.classes.made) {
		if !asked[thing] {
			continue
		}
		out = append(out, thing)
		l := links[thing]
		ask(thing, l.low)
		ask(l.high, l.up)
		for _, pair := range l.why.rests(&c.nodes[l.low], &c.nodes[l.high]) {
			ask(pair[0], pair[1])
		}
	}
	slices.Reverse(out)
	return out
}

// scribe writes a proof, link by link. What it is to prove rests on links that it has written.
type scribe struct {
	*closure
	known map[[2]int]int                  // the steps that prove two terms the same
	write func(x, y int, proved Step) int // returns the step that proves x and y the same, a new one if there was none
}

// proof returns a proof that x and y are the same.
func (c *closure) proof(x, y int) []Step {
	var steps []Step
	known := map[[2]int]int{}
	write := func(x, y int, proved Step) int {
		at, ok := known[[2]int{x, y}]
		if !ok {
			at = len(steps)
			steps = append(steps, proved)
			known[[2]int{x, y}] = at
		}
		return at
	}
	s := &scribe{closure: c, known: known, write: write}
	for _, thing := range c.basis(x, y) {
		l := &c.classes.links[thing]
		s.begin(l)
		s.chain(thing, l.low, l.high)
		s.chain(thing, l.high, l.up)
	}
	last := s.prove(x, y)
	return steps[:last+1]
}

// begin proves l's low and high the same.
func (s *scribe) begin(l *link[reason]) {
	switch why := l.why.(type) {
	case stated:
		g := s.given[why.number]
		at := s.write(g[0], g[1], Step{Kind: Given, A: why.number})
		if l.low != g[0] {
			s.write(l.low, l.high, Step{Kind: Turn, A: at})
		}
	case alike:
		low, high := &s.nodes[l.low], &s.nodes[l.high]
		var list []int
		for _, pair := range why.rests(low, high) {
			list = append(list, s.prove(pair[0], pair[1]))
		}
		s.write(l.low, l.high, Step{Kind: Apply, Text: low.name, List: list})
	}
}

// chain proves x and z the same, as x and y are, and y and z.
func (s *scribe) chain(x, y, z int) int {
	if x == y || y == z {
		return s.prove(x, z)
	}
	one := s.prove(x, y)
	two := s.prove(y, z)
	return s.write(x, z, Step{Kind: Chain, A: one, B: two})
}

// prove returns the step that proves x and y the same.
func (s *scribe) prove(x, y int) int {
	if at, ok := s.known[[2]int{x, y}]; ok {
		return at
	}
	if x == y {
		return s.write(x, y, Step{Kind: Self, Text: s.text(x)})
	}
	top := s.classes.meet(x, y)
	if top == x {
		return s.write(x, y, Step{Kind: Turn, A: s.prove(y, x)})
	}
	if top == y {
		top = s.classes.links[x].up
	}
	return s.chain(x, top, y)
}

// Proves reports whether proof is a proof of s = t from the given equations.
func Proves(given [][2]string, s, t string, proof []Step) bool {
	m, e := lay(given, s, t)
	if e != api.OK {
		return false
	}
	var proved [][2]int
	for i := range proof {
		pair, ok := m.proved(&proof[i], proved)
		if !ok {
			return false
		}
		proved = append(proved, pair)
	}
	return len(proof) > 0 && !m.uneven && proved[len(proof)-1] == [2]int{m.asked[0], m.asked[1]}
}

// proved returns the equation that a step after those of the equations before proves, or false if it is none.
func (m *matter) proved(step *Step, before [][2]int) (equation [2]int, ok bool) {
	has := func(at int) bool { return at >= 0 && at < len(before) }
	switch step.Kind {
	case Given:
		if step.A >= 0 && step.A < len(m.given) {
			return m.given[step.A], true
		}
	case Self:
		x, e := m.read(step.Text, false)
		return [2]int{x, x}, e == api.OK
	case Turn:
		if has(step.A) {
			one := before[step.A]
			return [2]int{one[1], one[0]}, true
		}
	case Chain:
		if has(step.A) && has(step.B) {
			one, two := before[step.A], before[step.B]
			return [2]int{one[0], two[1]}, one[1] == two[0]
		}
	case Apply:
		return m.applied(step, before)
	}
	return [2]int{}, false
}

// applied returns the equation that a step of the kind Apply proves.
func (m *matter) applied(step *Step, before [][2]int) (equation [2]int, ok bool) {
	if !isName(step.Text) || len(step.List) > mostParts {
		return [2]int{}, false
	}
	var sides [2]node
	for i := range sides {
		sides[i] = node{name: step.Text, count: len(step.List)}
		for j, at := range step.List {
			if at < 0 || at >= len(before) {
				return [2]int{}, false
			}
			sides[i].parts[j] = before[at][i]
		}
	}
	return [2]int{m.add(sides[0]), m.add(sides[1])}, true
}
