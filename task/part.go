package task

import (
	"minikin/api"
	"minikin/small"
)

// Part returns a formula of the least depth that parts p from q, and whether there is one.
func Part(s System, p, q int) (formula string, ok bool, e api.Errno) {
	c, e := lay(s)
	if e != api.OK {
		return "", false, e
	}
	if !c.has(p) || !c.has(q) {
		return "", false, api.ErrArg
	}
	k := c.seek()
	depth, ok := k.apart(p, q)
	if !ok {
		return "", false, api.OK
	}
	v := k.find(aim{p: p, out: small.One(q), depth: depth})
	if v.formula == nil {
		return "", false, api.ErrWide
	}
	return string(v.formula.put(nil)), true, api.OK
}

// aim asks for a formula of at most a depth that is true at p and false at all of out. Each state of out is told from p by some formula of that depth.
type aim struct {
	p     int
	out   small.Set
	depth int
}

// seeker looks for short formulas.
type seeker struct {
	chart *chart
	alike [][]small.Set // the states that no formula of depth 0, 1 and so on tells from each state
	known map[aim]view
}

// seek returns a seeker for c.
func (c *chart) seek() *seeker {
	k := &seeker{chart: c, known: map[aim]view{}}
	for _, classes := range c.rounds() {
		members := make([]small.Set, c.states)
		for p, class := range classes {
			members[class] |= small.One(p)
		}
		alike := make([]small.Set, c.states)
		for p, class := range classes {
			alike[p] = members[class]
		}
		k.alike = append(k.alike, alike)
	}
	return k
}

// apart returns the least depth of the formulas that tell p from q, and whether there are any.
func (k *seeker) apart(p, q int) (int, bool) {
	for depth, alike := range k.alike {
		if !alike[p].Has(q) {
			return depth, true
		}
	}
	return 0, false
}

// near returns the states that formulas of the depth do not tell from some state of set.
func (k *seeker) near(set small.Set, depth int) small.Set {
	out := small.Set(0)
	for p := range set.All() {
		out |= k.alike[depth][p]
	}
	return out
}

// find returns a view that fits a, as short as was found.
func (k *seeker) find(a aim) view {
	v, known := k.known[a]
	if known {
		return v
	}
	v = view{formula: truth{}, bytes: 1, at: k.chart.all()}
	if a.out != 0 {
		var views []view
		for label := range labels {
			views = append(views, k.can(a, label)...)
			views = append(views, k.cannot(a, label)...)
		}
		v = conjunction(views, a.out)
	}
	k.known[a] = v
	return v
}

// can returns views that are true at a.p, and false at some states of a.out, for a step with the label that p can take and these states cannot.
func (k *seeker) can(a aim, label int) []view {
	var views []view
	for x := range k.chart.to[label][a.p].All() {
		out := a.out &^ k.chart.before(label, k.alike[a.depth-1][x])
		for q := range out.All() {
			views = append(views, k.may(label, aim{p: x, out: k.chart.to[label][q], depth: a.depth - 1}))
		}
	}
	return views
}

// cannot returns views that are true at a.p, and false at some states of a.out, for a step with the label that p cannot take and these states can.
func (k *seeker) cannot(a aim, label int) []view {
	var views []view
	ends := k.chart.to[label][a.p]
	others := k.chart.after(label, a.out) &^ k.near(ends, a.depth-1)
	for x := range others.All() {
		v := k.may(label, aim{p: x, out: ends, depth: a.depth - 1})
		views = append(views, v.denied(k.chart.all()))
	}
	return views
}

// may returns the view that there is a step with the label to a state at which a view that fits a is true.
func (k *seeker) may(label int, a aim) view {
	v := k.find(a)
	if v.formula == nil {
		return v
	}
	return view{formula: may{label: label, then: v.formula}, bytes: v.bytes + mayBytes, at: k.chart.before(label, v.at)}.within()
}
