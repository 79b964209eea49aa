package queue

import (
	"minikin/ratio"
	"minikin/small"
)

// Limits of shops.
const (
	mostStations = 8
	mostJobs     = 12
	mostNumber   = 999_999 // of a numerator or a denominator
)

func (s Shop) isShop() bool {
	stations := len(s.Rates)
	if stations < 1 || stations > mostStations || len(s.Ways) != stations {
		return false
	}
	for i, row := range s.Ways {
		if s.Rates[i].Sign() <= 0 || len(row) != stations {
			return false
		}
		if !areShort(s.Rates[i]) || !areShort(row...) || !areChances(row) {
			return false
		}
	}
	return s.isJoined()
}

// areShort reports whether no numerator or denominator has too many digits.
func areShort(list ...ratio.Rat) bool {
	for _, r := range list {
		num, short := r.Num().Int64()
		den, shortToo := r.Den().Int64()
		if !short || !shortToo || num < -mostNumber || num > mostNumber || den > mostNumber {
			return false
		}
	}
	return true
}

// areChances reports whether no fraction of list is below 0, and their sum is 1.
func areChances(list []ratio.Rat) bool {
	for _, r := range list {
		if r.Sign() < 0 {
			return false
		}
	}
	return sum(list...).Cmp(ratio.Of(1)) == 0
}

// isJoined reports whether jobs get from every station to every other one.
func (s Shop) isJoined() bool {
	for station := range s.Ways {
		if s.reach(station) != small.Below(len(s.Ways)) {
			return false
		}
	}
	return true
}

// reach returns the stations to which jobs get from a station, with itself.
func (s Shop) reach(station int) small.Set {
	met := small.Set(0)
	var visit func(int)
	visit = func(i int) {
		met |= small.One(i)
		for j, way := range s.Ways[i] {
			if way.Sign() > 0 && !met.Has(j) {
				visit(j)
			}
		}
	}
	visit(station)
	return met
}

// visits solves the equations of the visits but the one for station 0, which follows from the others since each row of Ways has the sum 1.
func (s Shop) visits() []ratio.Rat {
	rows := make([][]ratio.Rat, len(s.Ways))
	for j := range rows {
		rows[j] = make([]ratio.Rat, len(rows))
		for i, row := range s.Ways {
			if j > 0 {
				rows[j][i] = row[j].Neg()
			}
		}
		rows[j][j] = sum(rows[j][j], ratio.Of(1))
	}
	b := make([]ratio.Rat, len(rows))
	b[0] = ratio.Of(1)
	return must(ratio.Solve(rows, b))
}

// loads returns for each station the visits divided by the rate.
func (s Shop) loads() []ratio.Rat {
	out := s.visits()
	for i, rate := range s.Rates {
		out[i] = must(out[i].Quo(rate))
	}
	return out
}

// greatest returns the places in list of those that are greatest.
func greatest(list []ratio.Rat) []int {
	var out []int
	for i, r := range list {
		if len(out) > 0 && r.Cmp(list[out[0]]) > 0 {
			out = nil
		}
		if len(out) == 0 || r.Cmp(list[out[0]]) == 0 {
			out = append(out, i)
		}
	}
	return out
}

// flows are the rates of the shifts from each station to each, or multiples of them.
type flows [][]ratio.Rat

func (s Shop) flows() flows {
	var out flows
	for i, row := range s.Ways {
		out = append(out, scaled(row, s.Rates[i]))
	}
	return out
}

// into returns how often a job comes to a station and finds the others in the state x.
func (f flows) into(station int, x state, chance func(state) ratio.Rat) ratio.Rat {
	var parts []ratio.Rat
	for i, row := range f {
		if row[station].Sign() > 0 {
			parts = append(parts, must(row[station].Mul(chance(x.more(i)))))
		}
	}
	return sum(parts...)
}
