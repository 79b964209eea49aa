package task

import (
	"iter"
	"slices"

	"minikin/api"
	"minikin/small"
)

// mostTraced is the greatest number of labels in the lists that Traces counts.
const mostTraced = 12

// widen walks over the states that can be reached from p, the nearest first, with a shortest way to each.
func (c *chart) widen(p int) iter.Seq2[int, []Step] {
	return func(yield func(int, []Step) bool) {
		var ways [api.MaxStates][]Step
		found, met := []int{p}, small.One(p)
		for i := 0; i < len(found); i++ {
			at := found[i]
			if !yield(at, ways[at]) {
				return
			}
			for x := range c.steps(at) {
				if !met.Has(x.To) {
					met |= small.One(x.To)
					found = append(found, x.To)
					ways[x.To] = append(slices.Clone(ways[at]), x)
				}
			}
		}
	}
}

// isStuck reports whether p has no steps.
func (c *chart) isStuck(p int) bool {
	for range c.steps(p) {
		return false
	}
	return true
}

// Stuck returns the steps of a shortest way from p to a state without steps, and whether there is one.
func Stuck(s System, p int) (way []Step, ok bool, e api.Errno) {
	c, e := lay(s)
	if e != api.OK {
		return nil, false, e
	}
	if !c.has(p) {
		return nil, false, api.ErrArg
	}
	for q, way := range c.widen(p) {
		if c.isStuck(q) {
			return way, true, api.OK
		}
	}
	return nil, false, api.OK
}

// Traces returns the number of lists of n labels that are those of a way of n steps from p.
func Traces(s System, p, n int) (int64, api.Errno) {
	c, e := lay(s)
	if e != api.OK {
		return 0, e
	}
	if !c.has(p) || n < 0 || n > mostTraced {
		return 0, api.ErrArg
	}
	return c.traces(p, n), api.OK
}

// tally has the numbers of lists of labels that have to do with the same states, if there are any.
type tally map[small.Set]int64

// longer returns the tally of the lists with one more label, given how that changes the states.
func (t tally) longer(change func(label int, set small.Set) small.Set) tally {
	out := tally{}
	for set, lists := range t {
		for label := range labels {
			if changed := change(label, set); changed != 0 {
				out[changed] += lists
			}
		}
	}
	return out
}

// Sizes of tallies: a few sets are met with many others in less time than a tally takes to become longer, and many would take much memory.
const (
	fewSets  = 300
	manySets = 1 << 20
)

// traces counts lists from both ends, as neither beginnings nor ends alone need have few sets: the states to which a beginning leads are held against those from which an end leads on.
func (c *chart) traces(p, n int) int64 {
	begins, ends := tally{small.One(p): 1}, tally{c.all(): 1}
	for range n {
		if len(begins) <= len(ends) || len(ends) > fewSets && len(begins) < manySets {
			begins = begins.longer(c.after)
		} else {
			ends = ends.longer(c.before)
		}
	}
	return meeting(begins, ends)
}

// meeting returns the number of lists that are one of begins and then one of ends, and have a state in common.
func meeting(begins, ends tally) int64 {
	type entry struct {
		set   small.Set
		lists int64
	}
	var list []entry // walking over a map again and again takes longer
	for set, lists := range ends {
		list = append(list, entry{set, lists})
	}
	number := int64(0)
	for set, lists := range begins {
		for _, x := range list {
			if set&x.set != 0 {
				number += lists * x.lists
			}
		}
	}
	return number
}
