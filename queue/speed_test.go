package queue_test

import (
	"math"
	"math/big"
	"math/rand"
	"testing"

	"minikin/api"
	"minikin/queue"
	"minikin/ratio"
)

// is returns a function that reports results that are not as they should be.
func is(t *testing.T, want *big.Rat) func(ratio.Rat, api.Errno) func(string, ...any) {
	return func(r ratio.Rat, e api.Errno) func(string, ...any) {
		return func(about string, list ...any) {
			t.Helper()
			if e != api.OK || large(r).Cmp(want) != 0 {
				t.Errorf(about, list...)
				t.Errorf("%v, %d, not %v", r, e, want)
			}
		}
	}
}

// TestExamples: the examples of the chapter (P7.2, P7.3), and others.
func TestExamples(t *testing.T) {
	for _, x := range []struct {
		s    queue.Shop
		n    int
		want string
	}{
		{two, 3, "1 3/2 7/4 15/8"},
		{two, 0, "1"},
		{one, 3, "1 1/3 1/9 1/27"},
		{back, 2, "1 3/2 7/4"},
		{ring("1 1 1"), 3, "1 3 6 10"},
		{ring("1 1 1 1 1 1 1 1"), 12, "1 8 36 120 330 792 1716 3432 6435 11440 19448 31824 50388"},
	} {
		if g, e := queue.Constants(x.s, x.n); list(g) != x.want || e != api.OK {
			t.Errorf("%v: %s, %d", x.s, list(g), e)
		}
	}
	for _, x := range []struct {
		state []int
		want  *big.Rat
	}{{[]int{2, 0}, big.NewRat(4, 7)}, {[]int{1, 1}, big.NewRat(2, 7)}, {[]int{0, 2}, big.NewRat(1, 7)}, {[]int{0, 0}, big.NewRat(1, 1)}, {[]int{0, 12}, big.NewRat(1, 1<<13-1)}} {
		is(t, x.want)(queue.Chance(two, x.state))("Chance of %v", x.state)
	}
	for i, want := range []*big.Rat{big.NewRat(10, 7), big.NewRat(4, 7)} {
		is(t, want)(queue.Length(two, i, 2))("Length of %d", i)
		is(t, big.NewRat(6, 7))(queue.Speed(two, i, 2))("Speed of %d", i)
	}
	is(t, big.NewRat(5, 3))(queue.Time(two, 0, 2))("Time of 0")
	is(t, big.NewRat(2, 3))(queue.Time(two, 1, 2))("Time of 1")
	// One station has all jobs, and is always at work.
	for n := 1; n <= 12; n++ {
		is(t, big.NewRat(3, 1))(queue.Speed(one, 0, n))("Speed with %d", n)
		is(t, big.NewRat(int64(n), 1))(queue.Length(one, 0, n))("Length with %d", n)
		is(t, big.NewRat(int64(n), 3))(queue.Time(one, 0, n))("Time with %d", n)
		is(t, big.NewRat(1, 1))(queue.Chance(one, []int{n}))("Chance with %d", n)
		is(t, big.NewRat(1, 1))(queue.AtLeast(one, 0, n, n))("AtLeast with %d", n)
		is(t, big.NewRat(1, 1))(queue.Seen(one, 0, []int{n - 1}))("Seen with %d", n)
	}
}

// TestDefinitions compares with the sums over all states (P7.2, P7.3, P7.4, P7.9).
func TestDefinitions(t *testing.T) {
	r := rand.New(rand.NewSource(73))
	shops := []queue.Shop{one, two, back, three}
	for i := range 40 {
		shops = append(shops, sample(r, 1+i%4))
	}
	for _, s := range shops {
		m := modelOf(t, s)
		n := r.Intn(5)
		constants, e := queue.Constants(s, n)
		if len(constants) != n+1 || e != api.OK {
			t.Fatalf("%v: constants %v, %d", s, constants, e)
		}
		for k, g := range constants {
			is(t, m.constant(k))(g, e)("%v: constant %d", s, k)
		}
		chances := m.chances(n)
		for number, x := range states(len(s.Rates), n) {
			is(t, chances[number])(queue.Chance(s, x))("%v: chance of %v", s, x)
			for i := range s.Rates {
				is(t, m.seen(i, x))(queue.Seen(s, i, x))("%v: %v seen by %d", s, x, i)
				is(t, chances[number])(queue.Seen(s, i, x))("%v: %v seen by %d", s, x, i)
			}
		}
		for i := range s.Rates {
			is(t, m.speed(i, n))(queue.Speed(s, i, n))("%v: speed of %d", s, i)
			is(t, m.length(i, n))(queue.Length(s, i, n))("%v: length of %d", s, i)
			is(t, m.time(i, n))(queue.Time(s, i, n))("%v: time of %d", s, i)
			for k := -1; k <= n+2; k++ {
				is(t, m.atLeast(i, k, n))(queue.AtLeast(s, i, k, n))("%v: at least %d at %d", s, k, i)
			}
		}
	}
}

// TestManyStates compares with the sums over all states of as many stations and jobs as there can be (P7.2, P7.3).
func TestManyStates(t *testing.T) {
	s := ring("1 2 3 4 5 6 7 8")
	m := modelOf(t, s)
	all, constant := states(8, 12), m.constant(12)
	if len(all) != 50388 {
		t.Fatal(len(all))
	}
	constants, e := queue.Constants(s, 12)
	is(t, constant)(constants[12], e)("constant")
	length, some := new(big.Rat), new(big.Rat)
	for number, x := range all {
		weight := m.weight(x)
		length.Add(length, times(weight, big.NewRat(int64(x[1]), 1)))
		if x[1] >= 3 {
			some.Add(some, weight)
		}
		if number%5000 == 0 || number == len(all)-1 {
			is(t, over(weight, constant))(queue.Chance(s, x))("chance of %v", x)
		}
	}
	is(t, over(length, constant))(queue.Length(s, 1, 12))("length")
	is(t, over(some, constant))(queue.AtLeast(s, 1, 3, 12))("at least 3")
}

// TestNoJobs: a shop with no jobs (P7.2, P7.3).
func TestNoJobs(t *testing.T) {
	for _, s := range []queue.Shop{one, two, three, eight()} {
		last := len(s.Rates) - 1
		none := make([]int, last+1)
		is(t, big.NewRat(1, 1))(queue.Chance(s, none))("Chance")
		is(t, big.NewRat(1, 1))(queue.Seen(s, last, none))("Seen")
		is(t, new(big.Rat))(queue.Speed(s, last, 0))("Speed")
		is(t, new(big.Rat))(queue.Length(s, last, 0))("Length")
		is(t, new(big.Rat))(queue.Time(s, last, 0))("Time")
		is(t, big.NewRat(1, 1))(queue.AtLeast(s, last, 0, 0))("AtLeast 0")
		is(t, new(big.Rat))(queue.AtLeast(s, last, 1, 0))("AtLeast 1")
		if g, e := queue.Constants(s, 0); list(g) != "1" || e != api.OK {
			t.Errorf("Constants: %v, %d", g, e)
		}
	}
}

// TestAtLeast: k of any size (P7.2).
func TestAtLeast(t *testing.T) {
	for _, s := range []queue.Shop{one, two, three, eight()} {
		for _, n := range []int{0, 1, 5, 12} {
			for _, k := range []int{math.MinInt, -13, -1, 0} {
				is(t, big.NewRat(1, 1))(queue.AtLeast(s, len(s.Rates)-1, k, n))("at least %d of %d", k, n)
			}
			for _, k := range []int{n + 1, 13, math.MaxInt} {
				is(t, new(big.Rat))(queue.AtLeast(s, len(s.Rates)-1, k, n))("at least %d of %d", k, n)
			}
		}
	}
	for k, want := range []int64{7, 6, 4} {
		is(t, big.NewRat(want, 7))(queue.AtLeast(two, 0, k, 2))("at least %d at 0", k)
	}
	for k, want := range []int64{7, 3, 1} {
		is(t, big.NewRat(want, 7))(queue.AtLeast(two, 1, k, 2))("at least %d at 1", k)
	}
}

// TestNoStates: lists that are no states of a shop with as many jobs as there can be (P7.2, P7.4).
func TestNoStates(t *testing.T) {
	for _, x := range []struct {
		station      int
		state        []int
		chance, seen api.Errno
	}{
		{0, []int{0, 0}, api.OK, api.OK},
		{1, []int{5, 6}, api.OK, api.OK},
		{0, []int{11, 0}, api.OK, api.OK},
		{1, []int{0, 11}, api.OK, api.OK},
		{0, []int{6, 6}, api.OK, api.ErrArg},
		{0, []int{12, 0}, api.OK, api.ErrArg},
		{1, []int{0, 12}, api.OK, api.ErrArg},
		{1, []int{6, 7}, api.ErrArg, api.ErrArg},
		{0, []int{13, 0}, api.ErrArg, api.ErrArg},
		{0, []int{0, 13}, api.ErrArg, api.ErrArg},
		{0, []int{-1, 2}, api.ErrArg, api.ErrArg},
		{0, []int{2, -1}, api.ErrArg, api.ErrArg},
		{0, []int{13, -1}, api.ErrArg, api.ErrArg},
		{0, []int{-1, 13}, api.ErrArg, api.ErrArg},
		{0, []int{math.MinInt, math.MinInt}, api.ErrArg, api.ErrArg},
		{0, []int{math.MaxInt, math.MaxInt}, api.ErrArg, api.ErrArg},
		{0, []int{math.MaxInt, math.MinInt}, api.ErrArg, api.ErrArg},
		{0, []int{math.MinInt, math.MaxInt}, api.ErrArg, api.ErrArg},
		{0, nil, api.ErrShape, api.ErrShape},
		{0, []int{1}, api.ErrShape, api.ErrShape},
		{0, []int{1, 0, 0}, api.ErrShape, api.ErrShape},
		{0, []int{1, 0, 0, 0, 0, 0, 0, 0, 0}, api.ErrShape, api.ErrShape},
		{0, []int{-1}, api.ErrShape, api.ErrShape},
		{0, []int{13, 0, 0}, api.ErrShape, api.ErrShape},
		{0, []int{1, 1, -1}, api.ErrShape, api.ErrShape},
		{2, []int{1, 1}, api.OK, api.ErrArg},
		{-1, []int{1, 1}, api.OK, api.ErrArg},
		{2, []int{1}, api.ErrShape, api.ErrArg},
		{-1, []int{1, 1, 1}, api.ErrShape, api.ErrArg},
		{2, []int{-1, 1}, api.ErrArg, api.ErrArg},
		{math.MinInt, nil, api.ErrShape, api.ErrArg},
	} {
		r, e := queue.Chance(two, x.state)
		if e != x.chance || (r.Sign() == 0) != (e != api.OK) {
			t.Errorf("Chance(%v): %v, %d", x.state, r, e)
		}
		r, e = queue.Seen(two, x.station, x.state)
		if e != x.seen || (r.Sign() == 0) != (e != api.OK) {
			t.Errorf("Seen(%d, %v): %v, %d", x.station, x.state, r, e)
		}
	}
}

// calculator returns a function that returns a result or stops the test.
func calculator(t *testing.T) func(ratio.Rat, api.Errno) *big.Rat {
	return func(r ratio.Rat, e api.Errno) *big.Rat {
		t.Helper()
		if e != api.OK {
			t.Fatal(e)
		}
		return large(r)
	}
}

// TestConsequences: P7.7 to P7.10, for shops of all sizes.
func TestConsequences(t *testing.T) {
	r := rand.New(rand.NewSource(74))
	shops := []queue.Shop{one, two, back, three, eight()}
	for i := range 32 {
		shops = append(shops, sample(r, 1+i%8))
	}
	get := calculator(t)
	for number, s := range shops {
		m := modelOf(t, s)
		constants, e := queue.Constants(s, 12)
		if e != api.OK {
			t.Fatal(e)
		}
		bound := new(big.Rat)
		for j := range m.rates {
			if load := over(m.visits[j], m.rates[j]); load.Cmp(bound) > 0 {
				bound = load
			}
		}
		for n := 1; n <= 12; n++ {
			if number%4 != n%4 && n < 11 {
				continue
			}
			before, now := large(constants[n-1]), large(constants[n])
			round, lengths := new(big.Rat), new(big.Rat)
			for i := range m.rates {
				load := over(m.visits[i], m.rates[i])
				speed, length := get(queue.Speed(s, i, n)), get(queue.Length(s, i, n))
				is(t, over(times(m.visits[i], before), now))(queue.Speed(s, i, n))("%v: speed of %d, %d jobs", s, i, n)
				for _, k := range []int{0, 1, n / 2, n} {
					is(t, over(times(power(load, k), large(constants[n-k])), now))(queue.AtLeast(s, i, k, n))("%v: at least %d at %d, %d jobs", s, k, i, n)
				}
				time := over(plus(big.NewRat(1, 1), get(queue.Length(s, i, n-1))), m.rates[i])
				is(t, time)(queue.Time(s, i, n))("%v: time of %d, %d jobs", s, i, n)
				is(t, times(speed, time))(queue.Length(s, i, n))("%v: length of %d, %d jobs", s, i, n)
				round.Add(round, times(m.visits[i], time))
				lengths.Add(lengths, length)
				if speed.Cmp(get(queue.Speed(s, i, n-1))) < 0 {
					t.Errorf("%v: %d is slower with %d jobs", s, i, n)
				}
				if c := speed.Cmp(over(m.visits[i], bound)); c > 0 || c == 0 && len(s.Rates) > 1 {
					t.Errorf("%v: %d is too fast with %d jobs", s, i, n)
				}
			}
			is(t, over(big.NewRat(int64(n), 1), round))(queue.Speed(s, 0, n))("%v: speed of 0, %d jobs", s, n)
			if lengths.Cmp(big.NewRat(int64(n), 1)) != 0 {
				t.Errorf("%v: %v jobs, not %d", s, lengths, n)
			}
		}
		x := make([]int, len(s.Rates))
		for range r.Intn(12) {
			x[r.Intn(len(x))]++
		}
		want := get(queue.Chance(s, x))
		for i := range x {
			is(t, want)(queue.Seen(s, i, x))("%v: %v seen by %d", s, x, i)
		}
	}
}
