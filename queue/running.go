package queue

import "minikin/ratio"

// running is a shop with a number of jobs. No chance changes when all loads are multiplied by the same number: here they are whole, because sums of whole numbers take less time.
type running struct {
	shop      Shop
	jobs      int
	loads     []ratio.Rat
	constants []ratio.Rat // of these loads, for each number of jobs from 0 on
}

func run(s Shop, n int) running {
	loads := s.loads()
	loads = scaled(loads, common(loads))
	return running{shop: s, jobs: n, loads: loads, constants: constants(loads, n)}
}

// constants returns the sums of the weights of all states with 0 to n jobs.
func constants(loads []ratio.Rat, n int) []ratio.Rat {
	out := make([]ratio.Rat, n+1)
	out[0] = ratio.Of(1)
	// With one station more, a state has no job there, or it is one with a job less and another one there (Buzen).
	addStation := func(load ratio.Rat) {
		for k := range n {
			out[k+1] = sum(out[k+1], must(load.Mul(out[k])))
		}
	}
	for _, load := range loads {
		addStation(load)
	}
	return out
}

func (r running) chance(x state) ratio.Rat {
	weight := ratio.Of(1)
	for i, load := range r.loads {
		weight = must(weight.Mul(must(load.Pow(x[i]))))
	}
	return must(weight.Quo(r.constants[r.jobs]))
}

// atLeast returns the chance that a station has at least k jobs: then k of them are there, and the others anywhere.
func (r running) atLeast(station, k int) ratio.Rat {
	switch {
	case k < 1:
		return ratio.Of(1)
	case k > r.jobs:
		return ratio.Rat{}
	}
	weights := must(must(r.loads[station].Pow(k)).Mul(r.constants[r.jobs-k]))
	return must(weights.Quo(r.constants[r.jobs]))
}

func (r running) speed(station int) ratio.Rat {
	return must(r.shop.Rates[station].Mul(r.atLeast(station, 1)))
}

// length adds the chances of at least 1 job, of at least 2, and so on: so each state counts as often as there are jobs.
func (r running) length(station int) ratio.Rat {
	var chances []ratio.Rat
	for k := range r.jobs {
		chances = append(chances, r.atLeast(station, k+1))
	}
	return sum(chances...)
}

func (r running) time(station int) ratio.Rat {
	if r.jobs == 0 {
		return ratio.Rat{}
	}
	return must(r.length(station).Quo(r.speed(station)))
}

// seen returns how large a part of the jobs that come to a station find the others in the state x.
func (r running) seen(station int, x state) ratio.Rat {
	return must(r.shop.flows().into(station, x, r.chance).Quo(r.speed(station)))
}
