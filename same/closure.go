package same

import "minikin/api"

// mostGiven is the greatest number of given equations, and that of the terms of Classes.
const mostGiven = 100

// matter is what a call is about: terms, the given equations between them, and those about which it asks.
type matter struct {
	*stock
	given [][2]int
	asked []int
}

// lay reads what a call is about.
func lay(given [][2]string, terms ...string) (*matter, api.Errno) {
	if len(given) > mostGiven || len(terms) > mostGiven {
		return nil, api.ErrLong
	}
	var texts []string
	for _, g := range given {
		texts = append(texts, g[0], g[1])
	}
	m := &matter{stock: newStock()}
	all, e := m.readAll(append(texts, terms...), false)
	if e != api.OK {
		return nil, e
	}
	for i := range given {
		m.given = append(m.given, [2]int{all[2*i], all[2*i+1]})
	}
	m.asked = all[len(texts):]
	return m, api.OK
}

// reason is why two terms are the same.
type reason interface {
	// rests returns the pairs of terms that must be the same before low and high are, for this reason.
	rests(low, high *node) [][2]int
}

// stated: a given equation says so.
type stated struct {
	number int
}

// alike: they have the same name, and their parts are the same.
type alike struct{}

func (stated) rests(low, high *node) [][2]int {
	return nil
}

func (alike) rests(low, high *node) [][2]int {
	var out [][2]int
	for i, part := range low.under() {
		out = append(out, [2]int{part, high.parts[i]})
	}
	return out
}

// closure has the classes of the terms of a matter that are the same by some of its given equations.
type closure struct {
	*matter
	classes *forest[reason]
	wholes  [][]int      // for each root, the terms of which a part is in its class
	signs   map[node]int // a term for each name with roots as parts that is no term of the stock
	open    []claim
}

// claim says that two terms are the same.
type claim struct {
	x, y int
	why  reason
}

// apart returns the closure without given equations.
func (m *matter) apart() *closure {
	c := &closure{matter: m, classes: newForest[reason](len(m.nodes)), wholes: make([][]int, len(m.nodes)), signs: map[node]int{}}
	for x := range m.nodes {
		for _, part := range m.nodes[x].under() {
			c.wholes[part] = append(c.wholes[part], x)
		}
	}
	return c
}

// closed returns the closure with all given equations.
func (m *matter) closed() *closure {
	c := m.apart()
	for number := range m.given {
		c.state(number)
	}
	return c
}

// state adds a given equation, and all that follows.
func (c *closure) state(number int) {
	g := c.given[number]
	c.open = append(c.open[:0], claim{x: g[0], y: g[1], why: stated{number: number}})
	for i := 0; i < len(c.open); i++ {
		below, above, joined := c.classes.join(c.open[i].x, c.open[i].y, c.open[i].why)
		if !joined {
			continue
		}
		for _, x := range c.wholes[below] {
			c.sign(x)
		}
		c.wholes[above] = append(c.wholes[above], c.wholes[below]...)
		c.wholes[below] = nil
	}
}

// sign finds a term that is like x, whose parts have other roots than before, if there is one. A root that is none any more never becomes one again: what is kept for it is never found.
func (c *closure) sign(x int) {
	n := c.nodes[x]
	for i, part := range n.under() {
		n.parts[i] = c.classes.root(part)
	}
	like, ok := c.number[n]
	if !ok {
		like, ok = c.signs[n]
	}
	if ok {
		c.open = append(c.open, claim{x: x, y: like, why: alike{}})
	} else {
		c.signs[n] = x
	}
}

// ask reports whether the two terms about which the call asks are the same.
func (c *closure) ask() bool {
	return c.classes.same(c.asked[0], c.asked[1])
}

// numbered returns the numbers of the classes of terms, in the order of their first terms, and how many classes there are.
func (c *closure) numbered(terms []int) ([]int, int) {
	var out []int
	numbers := map[int]int{}
	for _, x := range terms {
		root := c.classes.root(x)
		number, ok := numbers[root]
		if !ok {
			number = len(numbers)
			numbers[root] = number
		}
		out = append(out, number)
	}
	return out, len(numbers)
}
