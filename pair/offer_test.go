package pair_test

import (
	"math"
	"math/rand"
	"reflect"
	"slices"
	"testing"

	"minikin/api"
	"minikin/pair"
)

const million = 1_000_000

// alike returns an offer with the same number everywhere.
func alike(rows int, x int64) [][]int64 {
	var offer [][]int64
	for range rows {
		offer = append(offer, slices.Repeat([]int64{x}, rows))
	}
	return offer
}

// with returns a copy of offer with another number in one place.
func with(offer [][]int64, i, k int, x int64) [][]int64 {
	offer = cloned(offer)
	offer[i][k] = x
	return offer
}

func cloned(offer [][]int64) [][]int64 {
	var out [][]int64
	for _, row := range offer {
		out = append(out, slices.Clone(row))
	}
	return out
}

// offered returns a random offer; small numbers make many ties.
func offered(r *rand.Rand, rows int) [][]int64 {
	most := []int64{0, 1, 3, 20, million}[r.Intn(5)]
	offer := alike(rows, 0)
	for _, row := range offer {
		for k := range row {
			row[k] = r.Int63n(2*most+1) - most
		}
	}
	return offer
}

// worthOf returns what an assignment is worth, and whether posts is one.
func worthOf(offer [][]int64, posts []int) (int64, bool) {
	if len(posts) != len(offer) {
		return 0, false
	}
	sum := int64(0)
	for i, k := range posts {
		if k < 0 || k >= len(offer) || slices.Contains(posts[:i], k) {
			return 0, false
		}
		sum += offer[i][k]
	}
	return sum, true
}

// assignments yields all assignments of so many persons, in their order.
func assignments(rows int, visit func(posts []int)) {
	var posts []int
	var next func()
	next = func() {
		if len(posts) == rows {
			visit(posts)
			return
		}
		for k := range rows {
			if !slices.Contains(posts, k) {
				posts = append(posts, k)
				next()
				posts = posts[:len(posts)-1]
			}
		}
	}
	next()
}

// arePrices is the definition of prices.
func arePrices(offer [][]int64, u, v []int64, worth int64) bool {
	if len(u) != len(offer) || len(v) != len(offer) {
		return false
	}
	sum := int64(0)
	for i := range offer {
		sum += u[i] + v[i]
		for k := range offer {
			if u[i]+v[k] < offer[i][k] {
				return false
			}
		}
	}
	return sum == worth
}

// priced checks Assign and Prices against each other.
func priced(t *testing.T, offer [][]int64) ([]int, int64) {
	t.Helper()
	kept := cloned(offer)
	posts, worth, e := pair.Assign(offer)
	sum, ok := worthOf(offer, posts)
	u, v, f := pair.Prices(offer)
	if !ok || sum != worth || e != api.OK || f != api.OK || !arePrices(offer, u, v, worth) || !reflect.DeepEqual(offer, kept) {
		t.Fatalf("%v: %v, %d, %v, %v, %d, %d", offer, posts, worth, u, v, e, f)
	}
	for i := range offer {
		if max(u[i], v[i]) > million*million || min(u[i], v[i]) < -million*million {
			t.Fatalf("%v: prices %v, %v", offer, u, v)
		}
		if u[i]+v[posts[i]] != offer[i][posts[i]] { // P4.8
			t.Fatalf("%v: %v, %v, %v", offer, posts, u, v)
		}
	}
	if !pair.ArePrices(offer, u, v, worth) || pair.ArePrices(offer, u, v, worth-1) || pair.ArePrices(offer, u, v, worth+1) {
		t.Fatalf("%v: %v, %v, %d", offer, u, v, worth)
	}
	return posts, worth
}

func TestOfferErrors(t *testing.T) {
	wide, narrow, none := alike(3, 1), alike(3, 1), alike(3, 1)
	wide[2] = append(wide[2], 1)
	narrow[1] = narrow[1][:2]
	none[0] = nil
	both := with(wide, 0, 0, million+1)
	for _, c := range []struct {
		offer [][]int64
		e     api.Errno
	}{
		{nil, api.ErrShape},
		{[][]int64{}, api.ErrShape},
		{[][]int64{{}}, api.ErrShape},
		{[][]int64{{1, 2}}, api.ErrShape},
		{[][]int64{{1}, {2}}, api.ErrShape},
		{wide, api.ErrShape},
		{narrow, api.ErrShape},
		{none, api.ErrShape},
		{both, api.ErrShape},
		{alike(13, 0), api.ErrShape},
		{alike(13, million+1), api.ErrShape},
		{alike(12, 0), api.OK},
		{alike(12, million), api.OK},
		{alike(12, -million), api.OK},
		{alike(1, million+1), api.ErrArg},
		{alike(1, -million-1), api.ErrArg},
		{with(alike(12, 0), 11, 11, million+1), api.ErrArg},
		{with(alike(12, 0), 11, 0, -million-1), api.ErrArg},
		{with(alike(2, 0), 0, 1, math.MaxInt64), api.ErrArg},
		{with(alike(2, 0), 1, 0, math.MinInt64), api.ErrArg},
	} {
		if c.e == api.OK {
			priced(t, c.offer)
			continue
		}
		if posts, worth, e := pair.Assign(c.offer); len(posts) != 0 || worth != 0 || e != c.e {
			t.Errorf("Assign(%v): %v, %d, %d, not %d", c.offer, posts, worth, e, c.e)
		}
		if u, v, e := pair.Prices(c.offer); len(u) != 0 || len(v) != 0 || e != c.e {
			t.Errorf("Prices(%v): %v, %v, %d, not %d", c.offer, u, v, e, c.e)
		}
		rows := len(c.offer)
		if pair.ArePrices(c.offer, slices.Repeat([]int64{2 * million}, rows), make([]int64, rows), int64(rows)*2*million) {
			t.Errorf("ArePrices(%v)", c.offer)
		}
	}
	if pair.ArePrices(nil, nil, nil, 0) || pair.ArePrices(alike(13, 0), make([]int64, 13), make([]int64, 13), 0) {
		t.Error("ArePrices of no offer")
	}
}

func TestAssignExamples(t *testing.T) {
	for _, c := range []struct {
		offer [][]int64
		posts []int
		worth int64
	}{
		{[][]int64{{1, 2}, {3, 5}}, []int{0, 1}, 6},
		{[][]int64{{1, 2}, {5, 3}}, []int{1, 0}, 7},
		{[][]int64{{1, 2}, {3, 4}}, []int{0, 1}, 5},
		{[][]int64{{0}}, []int{0}, 0},
		{[][]int64{{0, 0, 1}, {0, 0, 0}, {0, 0, 0}}, []int{2, 0, 1}, 1},
		{[][]int64{{0, 1, 1}, {0, 0, 0}, {0, 0, 0}}, []int{1, 0, 2}, 1},
		{alike(12, million), []int{0, 1, 2, 3, 4, 5, 6, 7, 8, 9, 10, 11}, 12 * million},
		{alike(12, -million), []int{0, 1, 2, 3, 4, 5, 6, 7, 8, 9, 10, 11}, -12 * million},
		{with(alike(12, 0), 11, 0, 1), []int{1, 2, 3, 4, 5, 6, 7, 8, 9, 10, 11, 0}, 1},
	} {
		if posts, worth := priced(t, c.offer); !slices.Equal(posts, c.posts) || worth != c.worth {
			t.Errorf("Assign(%v): %v, %d, not %v, %d", c.offer, posts, worth, c.posts, c.worth)
		}
	}
}

// TestAssign compares with all assignments; ties are decided by their order.
func TestAssign(t *testing.T) {
	r := rand.New(rand.NewSource(21))
	ties := 0
	for range 1500 {
		offer := offered(r, 1+r.Intn(6))
		most, number, first := int64(math.MinInt64), 0, []int(nil)
		assignments(len(offer), func(posts []int) {
			switch sum, _ := worthOf(offer, posts); {
			case sum > most:
				most, number, first = sum, 1, slices.Clone(posts)
			case sum == most:
				number++
			}
		})
		posts, worth := priced(t, offer)
		if worth != most || !slices.Equal(posts, first) {
			t.Fatalf("Assign(%v): %v, %d, not %v, %d", offer, posts, worth, first, most)
		}
		if number > 1 {
			ties++
		}
		u, v, _ := pair.Prices(offer)
		assignments(len(offer), func(posts []int) { // P4.8: whatever is worth less pays less than its prices
			sum, _ := worthOf(offer, posts)
			exact := true
			for i, k := range posts {
				exact = exact && u[i]+v[k] == offer[i][k]
			}
			if exact != (sum == most) {
				t.Fatalf("%v: %v is worth %d at prices %v, %v", offer, posts, sum, u, v)
			}
		})
	}
	if ties < 300 {
		t.Errorf("only %d ties", ties)
	}
}

// TestLargeAssign has 12 rows: prices are proofs, and whoever takes an earlier post lets the others be worth less.
func TestLargeAssign(t *testing.T) {
	r := rand.New(rand.NewSource(22))
	for range 60 {
		offer := offered(r, 12)
		posts, worth := priced(t, offer)
		left, sum := offer, int64(0)
		var open []int
		for k := range 12 {
			open = append(open, k)
		}
		for i, post := range posts[:11] {
			for n, k := range open {
				rest := remaining(left, n)
				_, more, _ := pair.Assign(rest)
				if k < post && sum+offer[i][k]+more == worth {
					t.Fatalf("Assign(%v): %v, but %d could take %d", offer, posts, i, k)
				}
				if k == post {
					left, open = rest, slices.Delete(open, n, n+1)
					break
				}
			}
			sum += offer[i][post]
		}
	}
}

// remaining returns the offer without its first person and one post.
func remaining(offer [][]int64, post int) [][]int64 {
	out := cloned(offer[1:])
	for i := range out {
		out[i] = slices.Delete(out[i], post, post+1)
	}
	return out
}

func TestArePrices(t *testing.T) {
	offer := [][]int64{{1, 2}, {3, 5}}
	const limit = 1_000_000_000_000_000
	for _, c := range []struct {
		u, v  []int64
		worth int64
		ok    bool
	}{
		{[]int64{1, 3}, []int64{0, 2}, 6, true},
		{[]int64{1, 3}, []int64{0, 2}, 5, false},
		{[]int64{1, 3}, []int64{0, 2}, 7, false},
		{[]int64{2, 3}, []int64{0, 2}, 7, true},
		{[]int64{0, 3}, []int64{0, 2}, 5, false},
		{[]int64{1, 3}, []int64{0, 1}, 5, false},
		{[]int64{1, 3, 0}, []int64{0, 2}, 6, false},
		{[]int64{1, 3}, []int64{0, 2, 0}, 6, false},
		{[]int64{1}, []int64{0, 2}, 3, false},
		{[]int64{1, 3}, []int64{0}, 4, false},
		{nil, nil, 0, false},
		{[]int64{limit, limit}, []int64{limit, limit}, 4 * limit, true},
		{[]int64{limit, limit}, []int64{5 - limit, 5 - limit}, 10, true},
		{[]int64{5 - limit, 5 - limit}, []int64{limit, limit}, 10, true},
		{[]int64{limit, limit}, []int64{-limit, -limit}, 0, false},
		{[]int64{limit + 1, limit}, []int64{0, 0}, 2*limit + 1, false},
		{[]int64{0, 0}, []int64{limit, limit + 1}, 2*limit + 1, false},
		{[]int64{limit, limit}, []int64{6 - limit, -limit - 1}, 5, false},
		{[]int64{-limit - 1, 5}, []int64{limit, limit}, limit + 4, false},
		{[]int64{math.MaxInt64, math.MaxInt64}, []int64{4, 4}, 6, false},
		{[]int64{math.MinInt64, math.MinInt64}, []int64{math.MinInt64, math.MinInt64}, 0, false},
		{[]int64{1, 3}, []int64{0, 2}, math.MinInt64, false},
		{[]int64{1, 3}, []int64{0, 2}, math.MaxInt64, false},
	} {
		if ok := pair.ArePrices(offer, c.u, c.v, c.worth); ok != c.ok {
			t.Errorf("ArePrices(%v, %v, %d): %v", c.u, c.v, c.worth, ok)
		}
	}
	// The limits of the offer itself, with the greatest prices.
	full := slices.Repeat([]int64{limit}, 12)
	if !pair.ArePrices(alike(12, million), full, full, 24*limit) || pair.ArePrices(alike(12, million), full, full, 24*limit+1) {
		t.Error("ArePrices at the limits")
	}
	if !pair.ArePrices([][]int64{{limit / limit}}, []int64{limit}, []int64{1 - limit}, 1) || pair.ArePrices([][]int64{{2}}, []int64{limit}, []int64{1 - limit}, 1) {
		t.Error("ArePrices next to the offer")
	}
}

func TestRandomPrices(t *testing.T) {
	r := rand.New(rand.NewSource(23))
	found := 0
	for range 20000 {
		rows := 1 + r.Intn(3)
		offer := alike(rows, 0)
		u, v := make([]int64, rows), make([]int64, rows)
		sum := int64(0)
		for i := range offer {
			for k := range offer {
				offer[i][k] = int64(r.Intn(4))
			}
			u[i], v[i] = int64(r.Intn(5)-1), int64(r.Intn(5)-1)
			sum += u[i] + v[i]
		}
		worth := sum + []int64{0, 0, 0, 1, -1}[r.Intn(5)]
		is := arePrices(offer, u, v, worth)
		if pair.ArePrices(offer, u, v, worth) != is {
			t.Fatalf("ArePrices(%v, %v, %v, %d): %v", offer, u, v, worth, !is)
		}
		if is {
			found++
			if _, most, _ := pair.Assign(offer); most > worth { // P4.8: nothing is worth more than its prices
				t.Fatalf("Assign(%v): %d, but prices %v, %v", offer, most, u, v)
			}
		}
	}
	if found < 500 {
		t.Errorf("only %d prices", found)
	}
}

func TestOfferMemory(t *testing.T) {
	// The rows are parts of one array, and end before numbers that are no offers.
	all := []int64{1, 2, math.MaxInt64, 3, 5, math.MaxInt64}
	offer := [][]int64{all[0:2], all[3:5], nil}[:2]
	posts, worth := priced(t, offer)
	u, v, _ := pair.Prices(offer)
	_ = append(u, -1)
	_ = append(v, -1)
	if !slices.Equal(posts, []int{0, 1}) || worth != 6 || !arePrices(offer, u, v, 6) {
		t.Errorf("%v, %d, %v, %v", posts, worth, u, v)
	}
	kept, also := slices.Clone(u), slices.Clone(v)
	if !pair.ArePrices(offer, u, v, 6) || !slices.Equal(u, kept) || !slices.Equal(v, also) {
		t.Errorf("ArePrices changed %v, %v", u, v)
	}
	if !slices.Equal(all, []int64{1, 2, math.MaxInt64, 3, 5, math.MaxInt64}) {
		t.Errorf("changed: %v", all)
	}
}
