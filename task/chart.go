package task

import (
	"iter"
	"slices"

	"minikin/api"
	"minikin/small"
)

// Limits of processes.
const (
	labels    = 10
	mostSteps = 500
)

// hidden is the label of the steps that cannot be seen.
const hidden = 0

// chart is a process by the states to which the steps with each label lead from each state.
type chart struct {
	states int
	to     [labels][api.MaxStates]small.Set
}

// lay returns the chart of s, or ErrSystem if s is no process.
func lay(s System) (*chart, api.Errno) {
	if s.States < 1 || s.States > api.MaxStates || len(s.Steps) > mostSteps {
		return nil, api.ErrSystem
	}
	c := &chart{states: s.States}
	for _, x := range s.Steps {
		if !c.has(x.From) || !c.has(x.To) || x.Label < 0 || x.Label >= labels {
			return nil, api.ErrSystem
		}
		c.to[x.Label][x.From] |= small.One(x.To)
	}
	return c, api.OK
}

// has reports whether p is a state.
func (c *chart) has(p int) bool {
	return p >= 0 && p < c.states
}

func (c *chart) all() small.Set {
	return small.Below(c.states)
}

// steps walks over the steps of p, each once, ordered by Label and To.
func (c *chart) steps(p int) iter.Seq[Step] {
	return func(yield func(Step) bool) {
		for label := range labels {
			for q := range c.to[label][p].All() {
				if !yield(Step{From: p, Label: label, To: q}) {
					return
				}
			}
		}
	}
}

// after returns the states to which steps with the label lead from those of set.
func (c *chart) after(label int, set small.Set) small.Set {
	out := small.Set(0)
	for p := range set.All() {
		out |= c.to[label][p]
	}
	return out
}

// before returns the states from which steps with the label lead to those of set.
func (c *chart) before(label int, set small.Set) small.Set {
	out := small.Set(0)
	for p := range c.states {
		if c.to[label][p]&set != 0 {
			out |= small.One(p)
		}
	}
	return out
}

// looks are the classes to which the steps with each label lead from a state.
type looks [labels]small.Set

// finer returns the classes of the states that look alike, given the classes of what they look at.
func (c *chart) finer(classes []int) []int {
	number := map[looks]int{}
	out := make([]int, c.states)
	for p := range c.states {
		var x looks
		for step := range c.steps(p) {
			x[step.Label] |= small.One(classes[step.To])
		}
		n, known := number[x]
		if !known {
			n = len(number)
			number[x] = n
		}
		out[p] = n
	}
	return out
}

// rounds returns the classes of the states that no formula of depth 0, 1 and so on tells apart, up to the first depth from which on they remain.
func (c *chart) rounds() [][]int {
	out := [][]int{make([]int, c.states)}
	for {
		last := out[len(out)-1]
		next := c.finer(last)
		if slices.Equal(next, last) {
			return out
		}
		out = append(out, next)
	}
}

// classes returns the classes of the states that are bisimilar.
func (c *chart) classes() []int {
	rounds := c.rounds()
	return rounds[len(rounds)-1]
}

// going returns the chart whose steps lead to where the states of c go, by hidden steps and by labels: two states are weakly bisimilar in c just if they are bisimilar in it.
func (c *chart) going() *chart {
	out := &chart{states: c.states}
	var quiet [api.MaxStates]small.Set
	for p := range c.states {
		quiet[p] = c.quiet(small.One(p))
	}
	for label := range labels {
		for p := range c.states {
			out.to[label][p] = quiet[p]
			if label != hidden {
				out.to[label][p] = c.quiet(c.after(label, quiet[p]))
			}
		}
	}
	return out
}

// quiet returns the states to which those of set go by hidden steps.
func (c *chart) quiet(set small.Set) small.Set {
	for more := set; more != 0; set |= more {
		more = c.after(hidden, more) &^ set
	}
	return set
}
