package queue_test

import (
	"math"
	"math/rand"
	"slices"
	"strings"
	"testing"

	"minikin/api"
	"minikin/queue"
	"minikin/ratio"
)

// nine has a station too many.
func nine() queue.Shop {
	return ring("1 1 1 1 1 1 1 1 1")
}

// TestShops: what is a shop (P7.1).
func TestShops(t *testing.T) {
	for _, x := range []struct {
		about string
		s     queue.Shop
		is    bool
	}{
		{"one", one, true},
		{"two", two, true},
		{"back", back, true},
		{"three", three, true},
		{"eight stations", eight(), true},
		{"eight stations in a ring", ring("1 2 3 4 5 6 7 8"), true},
		{"nine stations", nine(), false},
		{"nothing", queue.Shop{}, false},
		{"no stations", shop(""), false},
		{"no rates", shop("", "1"), false},
		{"no ways", shop("1"), false},
		{"an empty row", shop("1", ""), false},
		{"a row too many", shop("1", "1", "1"), false},
		{"a row too few", shop("1 1", "0 1"), false},
		{"two rows for three rates", shop("1 1 1", "0 1", "1 0"), false},
		{"a short row", shop("1 1", "1", "1 0"), false},
		{"a short last row", shop("1 1", "0 1", "1"), false},
		{"a long row", shop("1 1", "0 1 0", "1 0"), false},
		{"a long last row", shop("1 1", "0 1", "1 0 0"), false},
		{"a rate of 0", shop("1 0", "0 1", "1 0"), false},
		{"a first rate of 0", shop("0 1", "0 1", "1 0"), false},
		{"a rate below 0", shop("1 -1", "0 1", "1 0"), false},
		{"a small rate below 0", shop("-1/999999", "1"), false},
		{"a small rate", shop("1/999999", "1"), true},
		{"a great rate", shop("999999", "1"), true},
		{"a rate with two great numbers", shop("999999/999998", "1"), true},
		{"a numerator of 7 digits", shop("1000000", "1"), false},
		{"a numerator of 7 digits and a denominator", shop("1000001/2", "1"), false},
		{"a denominator of 7 digits", shop("1/1000000", "1"), false},
		{"a second rate of 7 digits", shop("1 1000000", "0 1", "1 0"), false},
		{"a numerator of 20 digits", shop("18446744073709551617", "1"), false},
		{"a denominator of 20 digits", shop("1/18446744073709551617", "1"), false},
		{"a rate below 0 of 20 digits", shop("-18446744073709551615", "1"), false},
		{"numbers of 7 digits that are less in lowest terms", shop("2000000/4000000", "3000000/3000000"), true},
		{"ways that are less in lowest terms", shop("1 1", "1000000/4000000 3000000/4000000", "5/5 0/7"), true},
		{"a chance below 0", shop("1 1", "-1 2", "1 0"), false},
		{"a chance below 0 in the last row", shop("1 1", "0 1", "3/2 -1/2"), false},
		{"a sum below 1", shop("1 1", "0 999998/999999", "1 0"), false},
		{"a sum above 1", shop("1 1", "1/999999 1", "1 0"), false},
		{"a sum below 1 in the last row", shop("1 1", "0 1", "1/2 1/3"), false},
		{"a sum of 0", shop("1 1", "0 1", "0 0"), false},
		{"one station that jobs leave", shop("1", "0"), false},
		{"one station with half a chance", shop("1", "1/2"), false},
		{"one station with two chances", shop("1", "2"), false},
		{"chances of 6 digits", shop("1 1", "1/999999 999998/999999", "1 0"), true},
		{"chances of 7 digits", shop("1 1", "1/1000000 999999/1000000", "1 0"), false},
		{"a last row of 7 digits", shop("1 1", "0 1", "999999/1000000 1/1000000"), false},
		{"chances of 20 digits", shop("1 1", "1/18446744073709551617 18446744073709551616/18446744073709551617", "1 0"), false},
		{"a station that none reaches", shop("1 1", "1 0", "1 0"), false},
		{"a station that reaches none", shop("1 1", "0 1", "0 1"), false},
		{"two that are apart", shop("1 1", "1 0", "0 1"), false},
		{"a chain that does not return", shop("1 1 1", "0 1 0", "0 0 1", "0 0 1"), false},
		{"a chain that returns half", shop("1 1 1", "0 1 0", "0 0 1", "0 1 0"), false},
		{"a chain that returns", shop("1 1 1", "0 1 0", "0 0 1", "1 0 0"), true},
		{"a chain from the last one on", shop("1 1 1", "0 0 1", "1 0 0", "0 1 0"), true},
		{"a small chance to return", shop("1 1 1", "0 1 0", "0 0 1", "1/999999 0 999998/999999"), true},
	} {
		e := queue.Check(x.s)
		if (e == api.OK) != x.is || (e == api.ErrShop) == x.is {
			t.Errorf("%s: %d", x.about, e)
		}
	}
}

// TestNoFractions: what ratio refuses is 0 (P7.1).
func TestNoFractions(t *testing.T) {
	r, e := ratio.Parse("2/4")
	q, f := ratio.Make(1, 0)
	if e == api.OK || f == api.OK {
		t.Fatal("fractions")
	}
	for _, x := range []ratio.Rat{r, q, {}} {
		if e := queue.Check(queue.Shop{Rates: []ratio.Rat{x}, Ways: one.Ways}); e != api.ErrShop {
			t.Errorf("a rate: %d", e)
		}
		if e := queue.Check(queue.Shop{Rates: one.Rates, Ways: [][]ratio.Rat{{x}}}); e != api.ErrShop {
			t.Errorf("a chance: %d", e)
		}
		// Beside another chance it is one of 0.
		if e := queue.Check(queue.Shop{Rates: two.Rates, Ways: [][]ratio.Rat{{x, ratio.Of(1)}, {ratio.Of(1), x}}}); e != api.OK {
			t.Errorf("two chances: %d", e)
		}
	}
}

// TestJoined looks at all shops of three stations in which a job goes to each of some with the same chance (P7.1).
func TestJoined(t *testing.T) {
	shops := 0
	for bits := range 1 << 9 {
		reach := [3][3]bool{}
		s := queue.Shop{Rates: rats("1 1 1")}
		full := true
		for i := range 3 {
			row, size := make([]ratio.Rat, 3), int64(bits>>(3*i)&1+bits>>(3*i+1)&1+bits>>(3*i+2)&1)
			for j := range row {
				reach[i][j] = bits>>(3*i+j)&1 == 1
				if reach[i][j] {
					row[j], _ = ratio.Make(1, size)
				}
			}
			full = full && size > 0
			s.Ways = append(s.Ways, row)
		}
		for k := range 3 {
			for i := range 3 {
				for j := range 3 {
					reach[i][j] = reach[i][j] || reach[i][k] && reach[k][j]
				}
			}
		}
		for i := range 3 {
			for j := range 3 {
				full = full && (i == j || reach[i][j])
			}
		}
		if full {
			shops++
		}
		if e := queue.Check(s); (e == api.OK) != full {
			t.Errorf("%v: %d", s.Ways, e)
		}
	}
	if shops != 144 {
		t.Errorf("%d shops", shops)
	}
}

// outcome is what a call returned: whether its result is the zero value, and its error.
type outcome struct {
	name string
	zero bool
	e    api.Errno
}

// calls calls all functions that return an error beside a result.
func calls(s queue.Shop, station, k, n int, state []int) []outcome {
	var out []outcome
	add := func(name string, zero bool, e api.Errno) { out = append(out, outcome{name, zero, e}) }
	one := func(name string, r ratio.Rat, e api.Errno) { add(name, r.Sign() == 0, e) }
	visits, e := queue.Visits(s)
	add("Visits", len(visits) == 0, e)
	constants, e := queue.Constants(s, n)
	add("Constants", len(constants) == 0, e)
	stations, e := queue.Bottleneck(s)
	add("Bottleneck", len(stations) == 0, e)
	r, e := queue.Chance(s, state)
	one("Chance", r, e)
	r, e = queue.AtLeast(s, station, k, n)
	one("AtLeast", r, e)
	r, e = queue.Speed(s, station, n)
	one("Speed", r, e)
	r, e = queue.Length(s, station, n)
	one("Length", r, e)
	r, e = queue.Time(s, station, n)
	one("Time", r, e)
	r, e = queue.Seen(s, station, state)
	one("Seen", r, e)
	return out
}

// TestNoShop: all functions return ErrShop before any other error (P7.1, R1, R2).
func TestNoShop(t *testing.T) {
	for _, s := range []queue.Shop{{}, nine(), shop("0 1", "0 1", "1 0"), shop("1 1", "1 0", "1 0"), shop("1 1", "0 1"), shop("1", "1/2"), shop("1 1000000", "0 1", "1 0")} {
		for _, n := range []int{-1, 0, 1, 12, 13, math.MinInt} {
			for _, state := range [][]int{nil, {1}, {0, 1}, {-1, 1}, {13, 0}, {1, 1, 1, 1, 1, 1, 1, 1, 1}} {
				for _, x := range calls(s, n, n, n, state) {
					if !x.zero || x.e != api.ErrShop {
						t.Errorf("%s(%v), %d, %v: %v, %d", x.name, s, n, state, x.zero, x.e)
					}
				}
			}
		}
		for n := range 3 {
			if queue.Balances(s, n, nil) || queue.Balances(s, n, rats("1")) || queue.Balances(s, n, rats("1/2 1/2")) {
				t.Errorf("Balances(%v)", s)
			}
		}
	}
}

// TestOutOfRange: stations that there are not, and n out of range (P7.1, R9).
func TestOutOfRange(t *testing.T) {
	wrong := map[string]bool{"AtLeast": true, "Speed": true, "Length": true, "Time": true}
	for _, s := range []queue.Shop{one, two, three, eight()} {
		stations := len(s.Rates)
		state := make([]int, stations)
		for _, station := range []int{-1, stations, stations + 1, 8, 9, math.MinInt, math.MaxInt} {
			for _, x := range calls(s, station, 0, 1, state) {
				if is := wrong[x.name] || x.name == "Seen"; is != (x.e == api.ErrArg) || is != x.zero || !is && x.e != api.OK {
					t.Errorf("%d stations, %s of %d: %v, %d", stations, x.name, station, x.zero, x.e)
				}
			}
		}
		for _, n := range []int{-1, 13, 14, math.MinInt, math.MaxInt} {
			for _, x := range calls(s, stations-1, 0, n, state) {
				if is := wrong[x.name] || x.name == "Constants"; is != (x.e == api.ErrArg) || is != x.zero || !is && x.e != api.OK {
					t.Errorf("%d stations, %s with %d: %v, %d", stations, x.name, n, x.zero, x.e)
				}
			}
			if queue.Balances(s, n, nil) || queue.Balances(s, n, rats("1")) {
				t.Errorf("Balances with %d", n)
			}
		}
		for _, n := range []int{0, 1, 12} {
			for _, x := range calls(s, stations-1, 0, n, state) {
				if x.e != api.OK || x.zero && n > 0 {
					t.Errorf("%d stations, %s with %d: %v, %d", stations, x.name, n, x.zero, x.e)
				}
			}
		}
	}
}

// TestVisits: P7.2.
func TestVisits(t *testing.T) {
	for _, x := range []struct {
		s    queue.Shop
		want string
	}{
		{one, "1"},
		{two, "1 1"},
		{back, "1 1/2"},
		{ring("1 2 3 4 5 6 7 8"), "1 1 1 1 1 1 1 1"},
		{shop("1 1", "0 1", "1/3 2/3"), "1 3"},
		{shop("1 1", "999998/999999 1/999999", "1 0"), "1 1/999999"},
		{shop("1 1", "0 1", "1/999999 999998/999999"), "1 999999"},
		{shop("1 1 1", "0 1/2 1/2", "1 0 0", "1 0 0"), "1 1/2 1/2"},
		{shop("1 1 1", "0 1/2 1/2", "0 0 1", "1 0 0"), "1 1/2 1"},
	} {
		if v, e := queue.Visits(x.s); list(v) != x.want || e != api.OK {
			t.Errorf("%v: %s, %d", x.s, list(v), e)
		}
	}
	// modelOf looks whether they are visits.
	r := rand.New(rand.NewSource(71))
	for i := range 400 {
		modelOf(t, sample(r, 1+i%8))
	}
	modelOf(t, eight())
}

// TestBottleneck: P7.3.
func TestBottleneck(t *testing.T) {
	for _, x := range []struct {
		s    queue.Shop
		want []int
	}{
		{one, []int{0}},
		{two, []int{0}},
		{shop("2 1", "0 1", "1 0"), []int{1}},
		{shop("1 1", "0 1", "1 0"), []int{0, 1}},
		{back, []int{0}},
		{shop("2 1", "1/2 1/2", "1 0"), []int{0, 1}},
		{shop("2 999998/999999", "1/2 1/2", "1 0"), []int{1}},
		{shop("2 999999/999998", "1/2 1/2", "1 0"), []int{0}},
		{ring("5 2 7 2 2 3"), []int{1, 3, 4}},
		{ring("1 1 1 1 1 1 1 1"), []int{0, 1, 2, 3, 4, 5, 6, 7}},
		{ring("2 2 2 2 2 2 2 1"), []int{7}},
		{ring("3 2 1 2 1 3 1 2"), []int{2, 4, 6}},
	} {
		if l, e := queue.Bottleneck(x.s); !slices.Equal(l, x.want) || e != api.OK {
			t.Errorf("%v: %v, %d", x.s, l, e)
		}
	}
	r := rand.New(rand.NewSource(72))
	for i := range 300 {
		s := sample(r, 1+i%8)
		m := modelOf(t, s)
		// Rates that make some loads the same, if their digits are few enough.
		for j := range s.Rates {
			if rate := small(times(m.visits[j], large(s.Rates[0]))); r.Intn(2) == 0 && len(strings.TrimLeft(rate.String(), "-")) < 7 {
				s.Rates[j] = rate
			}
		}
		m = modelOf(t, s)
		var want []int
		for i := range m.rates {
			best := true
			for j := range m.rates {
				best = best && over(m.visits[i], m.rates[i]).Cmp(over(m.visits[j], m.rates[j])) >= 0
			}
			if best {
				want = append(want, i)
			}
		}
		if l, e := queue.Bottleneck(s); !slices.Equal(l, want) || e != api.OK {
			t.Errorf("%v: %v, %d, not %v", s, l, e, want)
		}
	}
}
