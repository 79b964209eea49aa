package word

// claim says: what the state of one web accepts, the states of another one accept.
type claim struct {
	state  int
	states set
}

// cover finds out whether the web n accepts all words of the web m.
type cover struct {
	n, m   web
	below  []set // for each state of n those that it can imitate
	around []set // for each state of m the states of n that can imitate it
	over   []set // for each state of m those that accept all its words
	within []set // for each state of m the states of n that accept none but its words
	claims *search[claim]
	sets   []*shelf   // for each state of m the sets of its claims
	todo   [129][]int // the claims that are not yet examined, by the size of their sets
	work   int        // the steps of the search for sets
}

// newCover prepares a cover.
func newCover(n, m web) *cover {
	c := &cover{
		n: n, m: m,
		below:  turned(imitate(n, n), len(n.next)),
		around: imitate(m, n),
		over:   imitate(m, m),
		within: turned(imitate(n, m), len(m.next)),
		claims: newSearch[claim](),
	}
	for range m.next {
		c.sets = append(c.sets, &shelf{})
	}
	for state := range m.start.all() {
		c.add(claim{state, n.start}, none, 0)
	}
	return c
}

// step examines the next claim. It returns done if there are none, or it is false: then for the word that it returns.
func (c *cover) step() (w string, differ, done bool) {
	i, ok := c.take()
	if !ok {
		return "", false, true
	}
	p := c.claims.states[i]
	if c.m.good.has(p.state) && !p.states.meets(c.n.good) {
		return c.claims.word(i), true, true
	}
	for x := range c.m.letters {
		for state := range c.m.next[p.state][x].all() {
			c.add(claim{state, c.n.step(p.states, x)}, i, x)
		}
	}
	return "", false, false
}

// add adds a claim to which a letter leads from a claim, unless others imply it.
func (c *cover) add(q claim, i, x int) {
	q.states = c.core(q.states)
	if c.implied(q) {
		return
	}
	at := c.claims.find(q, i, x)
	c.sets[q.state].put(q.states)
	size := q.states.size()
	c.todo[size] = append(c.todo[size], at)
}

// take takes a claim with a smallest set from those that are not yet examined.
func (c *cover) take() (int, bool) {
	for size, list := range c.todo {
		if len(list) > 0 {
			c.todo[size] = list[1:]
			return list[0], true
		}
	}
	return 0, false
}

// core takes from a set the states that another one of it can imitate.
func (c *cover) core(states set) set {
	out := states
	for s := range states.all() {
		if out.has(s) {
			out = out.without(c.below[s]).with(one(s))
		}
	}
	return out
}

// implied reports whether a claim follows from those that there are. It collects states that accept nothing but what the claim's set accepts.
func (c *cover) implied(q claim) bool {
	all := q.states
	for s := range q.states.all() {
		all = all.with(c.below[s])
	}
	used := set{}
	for grown := true; grown; {
		if all.meets(c.around[q.state]) {
			return true
		}
		grown = false
		for state, sets := range c.sets {
			if used.has(state) || !c.hasWithin(sets, all) {
				continue
			}
			if c.over[q.state].has(state) {
				return true
			}
			used = used.with(one(state))
			grown = grown || !c.within[state].within(all)
			all = all.with(c.within[state])
		}
	}
	return false
}

// hasWithin reports whether all states of some set of a shelf are in another set.
func (c *cover) hasWithin(t *shelf, states set) bool {
	c.work++
	if t.end {
		return true
	}
	for _, u := range t.after {
		if states.has(u.state) && c.hasWithin(u, states) {
			return true
		}
	}
	return false
}

// shelf keeps sets as a tree: each way from the root to an end has the states of a set, rising.
type shelf struct {
	state int
	end   bool
	after []*shelf
}

// put adds a set.
func (t *shelf) put(states set) {
	for s := range states.all() {
		t = t.place(s)
	}
	t.end = true
}

// place returns the next place on the way for the state s, which it makes if there is none.
func (t *shelf) place(s int) *shelf {
	for _, u := range t.after {
		if u.state == s {
			return u
		}
	}
	u := &shelf{state: s}
	t.after = append(t.after, u)
	return u
}
