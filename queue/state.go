package queue

import (
	"iter"

	"minikin/api"
)

// state tells how many jobs are at each station; beyond the last station there are none.
type state [mostStations]int

// stateOf returns the state in list, ErrShape if it does not have a number for each station, ErrArg if one is below 0 or the sum above most.
func stateOf(list []int, stations, most int) (state, api.Errno) {
	if len(list) != stations {
		return state{}, api.ErrShape
	}
	x, left := state{}, most
	for i, n := range list {
		if n < 0 || n > left {
			return state{}, api.ErrArg
		}
		x[i] = n
		left -= n
	}
	return x, api.OK
}

func (x state) jobs() int {
	n := 0
	for _, jobs := range x {
		n += jobs
	}
	return n
}

// more returns the state with one job more at station i.
func (x state) more(i int) state {
	x[i]++
	return x
}

// less returns the state with one job less at station i.
func (x state) less(i int) state {
	x[i]--
	return x
}

// states walks over the states with n jobs, ordered as lists, and their numbers from 0 on.
func states(stations, n int) iter.Seq2[int, state] {
	return func(yield func(int, state) bool) {
		x, last := state{}, stations-1
		x[last] = n
		for number := 0; yield(number, x); number++ {
			// The last station that has a job gives one to the station before it, and the others to the last one.
			from := last
			for from > 0 && x[from] == 0 {
				from--
			}
			if from == 0 {
				return
			}
			rest := x[from] - 1
			x[from] = 0
			x[from-1]++
			x[last] = rest
		}
	}
}

// countStates returns how many states with n jobs there are.
func countStates(stations, n int) int {
	count := 1
	for i := 1; i < stations; i++ {
		count = count * (n + i) / i
	}
	return count
}
