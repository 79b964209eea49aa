package same

import "minikin/api"

// unifier finds the terms with variables that must be the same.
type unifier struct {
	*stock
	classes *forest[struct{}]
	heads   []int // for each root, a term of its class that is no variable, or else the first variable
	images  []int // for each root, what its terms become, or one of the following
}

const (
	unknown = -1
	pending = -2 // to be known when its parts are
)

// Unify returns the most general substitution that unifies s and t, ErrClash or ErrCycle if there is none, and ErrLong or ErrTerm if its terms would be too large.
func Unify(s, t string) ([][2]string, api.Errno) {
	k := newStock()
	both, e := k.readAll([]string{s, t}, true)
	if e != api.OK {
		return nil, e
	}
	u := &unifier{stock: k, classes: newForest[struct{}](len(k.nodes))}
	for x := range k.nodes {
		u.heads = append(u.heads, x)
		u.images = append(u.images, unknown)
	}
	if !u.join(both[0], both[1]) {
		return nil, api.ErrClash
	}
	var variables []string
	var terms []int
	for c := 'A'; c <= 'Z'; c++ {
		x, ok := u.number[node{name: string(c)}]
		if !ok {
			continue
		}
		image, ok := u.image(x)
		if !ok {
			return nil, api.ErrCycle
		}
		if image != x {
			variables = append(variables, string(c))
			terms = append(terms, image)
		}
	}
	if e := u.fit(terms); e != api.OK {
		return nil, e
	}
	var out [][2]string
	for i, x := range terms {
		out = append(out, [2]string{variables[i], u.text(x)})
	}
	return out, api.OK
}

// join makes x and y the same, and what must be the same then, or returns false if two names stand against each other.
func (u *unifier) join(x, y int) bool {
	open := [][2]int{{x, y}}
	for i := 0; i < len(open); i++ {
		one := u.heads[u.classes.root(open[i][0])]
		two := u.heads[u.classes.root(open[i][1])]
		_, above, joined := u.classes.join(one, two, struct{}{})
		if !joined {
			continue
		}
		m, n := &u.nodes[one], &u.nodes[two]
		switch {
		case m.variable() && (!n.variable() || n.name < m.name):
			u.heads[above] = two
			continue
		case n.variable():
			u.heads[above] = one
			continue
		case m.name != n.name:
			return false
		}
		u.heads[above] = one
		for j, part := range m.under() {
			open = append(open, [2]int{part, n.parts[j]})
		}
	}
	return true
}

// image returns what x becomes when all variables are put in place, or false if a variable must be the same as a term that has it within. Every circle of classes has a variable: going down from a term in it, one comes to one.
func (u *unifier) image(x int) (int, bool) {
	root := u.classes.root(x)
	switch u.images[root] {
	case pending:
		return 0, false
	case unknown:
		u.images[root] = pending
		n := u.nodes[u.heads[root]]
		for i, part := range n.under() {
			y, ok := u.image(part)
			if !ok {
				return 0, false
			}
			n.parts[i] = y
		}
		u.images[root] = u.add(n)
	}
	return u.images[root], true
}

// Put returns t with the terms of the substitution in the places of its variables.
func Put(substitution [][2]string, t string) (string, api.Errno) {
	var texts []string
	for _, pair := range substitution {
		texts = append(texts, pair[1])
	}
	k := newStock()
	terms, e := k.readAll(append(texts, t), true)
	if e != api.OK {
		return "", e
	}
	instead := map[string]int{}
	last := ""
	for i, pair := range substitution {
		if !isVariable(pair[0]) || pair[0] <= last {
			return "", api.ErrArg
		}
		last = pair[0]
		instead[last] = terms[i]
	}
	out := k.put(terms[len(texts)], instead)
	if e := k.fit([]int{out}); e != api.OK {
		return "", e
	}
	return k.text(out), api.OK
}

// isVariable reports whether text is a variable.
func isVariable(text string) bool {
	return len(text) == 1 && text[0] >= 'A' && text[0] <= 'Z'
}

// put returns the term x with other terms in the places of variables, all at once.
func (s *stock) put(x int, instead map[string]int) int {
	images := make([]int, len(s.nodes))
	for y, n := range s.nodes {
		if other, ok := instead[n.name]; ok {
			images[y] = other
			continue
		}
		for i, part := range n.under() {
			n.parts[i] = images[part]
		}
		images[y] = s.add(n)
	}
	return images[x]
}
