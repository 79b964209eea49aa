package ring

import (
	"iter"

	"minikin/small"
)

// A kind of steps says which sets of the machines that are ready may move at once.
type kind struct {
	movers func(ready small.Set) iter.Seq[small.Set]
}

func kindOf(joint bool) kind {
	if joint {
		return kind{movers: parts}
	}
	return kind{movers: singles}
}

// singles walks over the sets of one of the machines.
func singles(ready small.Set) iter.Seq[small.Set] {
	return func(yield func(small.Set) bool) {
		for machine := range ready.All() {
			if !yield(small.One(machine)) {
				return
			}
		}
	}
}

// parts walks over the sets of some of the machines, or all, but not over the empty one.
func parts(ready small.Set) iter.Seq[small.Set] {
	return func(yield func(small.Set) bool) {
		// To take 1 off lets the bits outside ready borrow through: what is left within ready is the next lesser set.
		for part := ready; part != 0; part = (part - 1) & ready {
			if !yield(part) {
				return
			}
		}
	}
}

// chosen returns the set of the machine that a choice chooses from those that are ready, of which there is one.
func chosen(ready small.Set, choice int) small.Set {
	before := choice % ready.Size()
	for range before {
		ready &^= small.One(ready.First())
	}
	return small.One(ready.First())
}

// A chart is a protocol with steps of one kind.
type chart struct {
	Rules
	kind
	movable []small.Set // of each configuration, by its number: the machines that are ready
}

// draw returns the chart of a protocol.
func draw(r Rules, joint bool) chart {
	c := chart{Rules: r, kind: kindOf(joint), movable: make([]small.Set, configs(r.Machines, r.Colours))}
	for number := range c.movable {
		c.movable[number] = r.ready(r.state(number))
	}
	return c
}

// isGood reports whether just one machine is ready.
func (c chart) isGood(number int) bool {
	return c.movable[number].Size() == 1
}

// goods returns the numbers of the good configurations, rising.
func (c chart) goods() []int {
	var goods []int
	for number := range c.movable {
		if c.isGood(number) {
			goods = append(goods, number)
		}
	}
	return goods
}

// steps walks over the numbers of the configurations to which steps from one lead.
func (c chart) steps(number int) iter.Seq[int] {
	return func(yield func(int) bool) {
		s := c.state(number)
		for machines := range c.movers(c.movable[number]) {
			if !yield(c.number(c.move(s, machines))) {
				return
			}
		}
	}
}
