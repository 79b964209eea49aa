package task

import (
	"cmp"
	"iter"
	"slices"

	"minikin/api"
	"minikin/small"
)

// ordered returns the steps by From, Label and To, each once.
func ordered(steps []Step) []Step {
	slices.SortFunc(steps, func(a, b Step) int {
		return cmp.Or(cmp.Compare(a.From, b.From), cmp.Compare(a.Label, b.Label), cmp.Compare(a.To, b.To))
	})
	var out []Step
	for i, x := range steps {
		if i == 0 || x != steps[i-1] {
			out = append(out, x)
		}
	}
	return out
}

// Least returns the process of the classes of the states that can be reached from state 0.
func Least(s System) (System, api.Errno) {
	c, e := lay(s)
	if e != api.OK {
		return System{}, e
	}
	reached, classes := small.Set(0), c.classes()
	for p := range c.widen(0) {
		reached |= small.One(p)
	}
	number := map[int]int{}
	for p := range reached.All() {
		if _, known := number[classes[p]]; !known {
			n := len(number)
			number[classes[p]] = n
		}
	}
	var steps []Step
	for p := range reached.All() {
		for x := range c.steps(p) {
			steps = append(steps, Step{From: number[classes[p]], Label: x.Label, To: number[classes[x.To]]})
		}
	}
	return System{States: len(number), Steps: ordered(steps)}, api.OK
}

// Beside returns the process that has the states and steps of a and then those of b.
func Beside(a, b System) (System, api.Errno) {
	if Check(a) != api.OK || Check(b) != api.OK {
		return System{}, api.ErrSystem
	}
	if a.States+b.States > api.MaxStates || len(a.Steps)+len(b.Steps) > mostSteps {
		return System{}, api.ErrWide
	}
	out := System{States: a.States + b.States, Steps: slices.Clone(a.Steps)}
	for _, x := range b.Steps {
		out.Steps = append(out.Steps, Step{From: a.States + x.From, Label: x.Label, To: a.States + x.To})
	}
	return out, api.OK
}

// joint is two processes and the labels that they take together.
type joint struct {
	one, two *chart
	together small.Set
}

// couple is a state of each of two processes.
type couple struct {
	p, q int
}

// Join returns the composition of a and b.
func Join(a, b System, together []int) (System, api.Errno) {
	one, e := lay(a)
	if e != api.OK {
		return System{}, e
	}
	two, e := lay(b)
	if e != api.OK {
		return System{}, e
	}
	j := joint{one: one, two: two}
	for _, label := range together {
		if label < 1 || label >= labels || j.together.Has(label) {
			return System{}, api.ErrArg
		}
		j.together |= small.One(label)
	}
	return j.system()
}

// system returns the composition.
func (j *joint) system() (System, api.Errno) {
	found := []couple{{}}
	number := map[couple]int{{}: 0}
	var steps []Step
	for from := 0; from < len(found); from++ {
		for label, at := range j.steps(found[from]) {
			to, known := number[at]
			if !known {
				to = len(found)
				number[at] = to
				found = append(found, at)
			}
			steps = append(steps, Step{From: from, Label: label, To: to})
			if len(found) > api.MaxStates || len(steps) > mostSteps {
				return System{}, api.ErrWide
			}
		}
	}
	return System{States: len(found), Steps: ordered(steps)}, api.OK
}

// steps walks over the labels and ends of the steps of a couple, each once, ordered by label and by the states of the end.
func (j *joint) steps(at couple) iter.Seq2[int, couple] {
	return func(yield func(int, couple) bool) {
		for label := range labels {
			firsts := j.one.to[label][at.p] | small.One(at.p)
			for p := range firsts.All() {
				for q := range j.seconds(at, label, p).All() {
					if !yield(label, couple{p, q}) {
						return
					}
				}
			}
		}
	}
}

// seconds returns the states to which the second process comes by the steps of a couple with the label by which the first one comes to p, or remains there.
func (j *joint) seconds(at couple, label, p int) small.Set {
	comes, out := j.one.to[label][at.p].Has(p), small.Set(0)
	alone := !j.together.Has(label)
	if comes && alone {
		out |= small.One(at.q)
	}
	if comes && !alone || p == at.p && alone {
		out |= j.two.to[label][at.q]
	}
	return out
}
