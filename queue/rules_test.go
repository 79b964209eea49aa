package queue_test

import (
	"math"
	"math/rand"
	"reflect"
	"slices"
	"testing"

	"minikin/api"
	"minikin/queue"
	"minikin/ratio"
)

// TestArguments: arguments are neither changed nor kept, and what lies beyond their length is not read (R4, R7).
func TestArguments(t *testing.T) {
	within := func(l []ratio.Rat) []ratio.Rat {
		return append(slices.Clone(l), rats("-7 77")...)[:len(l)]
	}
	s := queue.Shop{Rates: within(three.Rates)}
	for _, row := range three.Ways {
		s.Ways = append(s.Ways, within(row))
	}
	s.Ways = append(s.Ways, nil)[:3]
	state := []int{1, 0, 1, 5}[:3]
	l := within(chances(t, three, 2))
	for range 2 {
		if !queue.Balances(s, 2, l) {
			t.Error("Balances")
		}
		if !reflect.DeepEqual(calls(s, 1, 1, 2, state), calls(three, 1, 1, 2, []int{1, 0, 1})) {
			t.Error("other results")
		}
		visits, e := queue.Visits(s)
		due, f := queue.Visits(three)
		if list(visits) != list(due) || e != f {
			t.Errorf("Visits: %v, %d", visits, e)
		}
		constants, e := queue.Constants(s, 4)
		due, f = queue.Constants(three, 4)
		if list(constants) != list(due) || e != f {
			t.Errorf("Constants: %v, %d", constants, e)
		}
		// Results are new memory.
		visits[1], constants[1] = ratio.Of(5), ratio.Of(5)
		stations, _ := queue.Bottleneck(s)
		stations[0] = 7
	}
	if list(s.Rates[:5]) != list(three.Rates)+" -7 77" || list(l[:len(l)+2]) != list(chances(t, three, 2))+" -7 77" || !slices.Equal(state[:4], []int{1, 0, 1, 5}) {
		t.Error("arguments are changed")
	}
	for i, row := range s.Ways {
		if list(row[:5]) != list(three.Ways[i])+" -7 77" {
			t.Error("arguments are changed")
		}
	}
}

// TestAnyArguments: no call panics (P1), and each result next to an error is zero (R2).
func TestAnyArguments(t *testing.T) {
	r := rand.New(rand.NewSource(78))
	numbers := []int{math.MinInt, -13, -1, 0, 1, 2, 3, 5, 7, 8, 11, 12, 13, math.MaxInt}
	number := func() int { return numbers[r.Intn(len(numbers))] }
	some := append(rats("0 1 -1 1/2 2/3 1/3 999999 1000000 1/999999 1/1000000 -1/2"), ratio.Rat{})
	fractions := func() []ratio.Rat {
		var out []ratio.Rat
		for range r.Intn(11) {
			out = append(out, some[r.Intn(len(some))])
		}
		return out
	}
	seen := map[api.Errno]int{}
	for range 4000 {
		s := sample(r, 1+r.Intn(8))
		switch r.Intn(6) {
		case 0:
			s.Rates = fractions()
		case 1:
			s.Ways[r.Intn(len(s.Ways))] = fractions()
		case 2:
			s.Ways = s.Ways[:r.Intn(len(s.Ways))]
		}
		state := make([]int, r.Intn(10))
		if r.Intn(2) == 0 {
			state = make([]int, len(s.Rates))
		}
		for range r.Intn(4) {
			if len(state) > 0 {
				state[r.Intn(len(state))] = number()
			}
		}
		for _, x := range calls(s, number(), number(), number(), state) {
			seen[x.e]++
			if x.e != api.OK && !x.zero {
				t.Errorf("%s(%v, %v): a result and %d", x.name, s, state, x.e)
			}
		}
		queue.Balances(s, number(), fractions())
	}
	if len(seen) != 4 || seen[api.OK] < 1000 || seen[api.ErrArg] < 1000 || seen[api.ErrShape] < 1000 || seen[api.ErrShop] < 1000 {
		t.Errorf("%v", seen)
	}
}
