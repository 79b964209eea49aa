package queue

import (
	"slices"

	"minikin/ratio"
)

// balance is what is to be balanced: whole numbers, because sums of these take less time.
type balance struct {
	flows   flows
	out     []ratio.Rat         // how much flows out of each station that has a job
	chances map[state]ratio.Rat // all of them times the same number
}

// balances reports whether for each state all shifts out of it and all into it balance. There must be a chance for each state.
func (s Shop) balances(n int, chances []ratio.Rat) bool {
	b := balance{flows: s.flows(), chances: map[state]ratio.Rat{}}
	most := common(slices.Concat(b.flows...))
	for i, row := range b.flows {
		b.flows[i] = scaled(row, most)
		b.out = append(b.out, sum(b.flows[i]...))
	}
	chances = scaled(chances, common(chances))
	for number, x := range states(len(s.Rates), n) {
		b.chances[x] = chances[number]
	}
	for _, x := range states(len(s.Rates), n) {
		if !b.isEven(x) {
			return false
		}
	}
	return true
}

// isEven reports whether the shifts out of the state x and those into it balance.
func (b balance) isEven(x state) bool {
	var out, in []ratio.Rat
	for i := range b.flows {
		if x[i] > 0 {
			out = append(out, b.out[i])
			in = append(in, b.flows.into(i, x.less(i), b.chance))
		}
	}
	return must(b.chance(x).Mul(sum(out...))).Cmp(sum(in...)) == 0
}

func (b balance) chance(x state) ratio.Rat {
	return b.chances[x]
}
