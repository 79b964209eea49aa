package queue_test

import (
	"math/big"
	"math/rand"
	"slices"
	"strings"
	"testing"

	"minikin/api"
	"minikin/queue"
	"minikin/ratio"
)

// chances returns what Chance says of each state with n jobs.
func chances(t *testing.T, s queue.Shop, n int) []ratio.Rat {
	t.Helper()
	var out []ratio.Rat
	for _, x := range states(len(s.Rates), n) {
		r, e := queue.Chance(s, x)
		if e != api.OK {
			t.Fatalf("%v: chance of %v: %d", s, x, e)
		}
		out = append(out, r)
	}
	return out
}

// TestBalances has lists that balance, and lists that do not (P7.5).
func TestBalances(t *testing.T) {
	for _, x := range []struct {
		about   string
		s       queue.Shop
		n       int
		chances string
		is      bool
	}{
		{"the example", two, 2, "1/7 2/7 4/7", true},
		{"the other order", two, 2, "4/7 2/7 1/7", false},
		{"too short", two, 2, "3/7 4/7", false},
		{"too long", two, 2, "1/7 2/7 4/7 0", false},
		{"too long in front", two, 2, "0 1/7 2/7 4/7", false},
		{"empty", two, 2, "", false},
		{"a sum of 0", two, 2, "0 0 0", false},
		{"a sum below 1", two, 2, "1/8 1/4 1/2", false},
		{"a sum above 1", two, 2, "1 2 4", false},
		{"a sum of -1", two, 2, "-1/7 -2/7 -4/7", false},
		{"below 0", two, 2, "-1/7 2/7 6/7", false},
		{"below 0, of sum 1", two, 2, "1 -1 1", false},
		{"the same for all", two, 2, "1/3 1/3 1/3", false},
		{"all in one state", two, 2, "0 0 1", false},
		{"the first two balance", two, 2, "1/5 2/5 2/5", false},
		{"the last two balance", two, 2, "1/4 1/4 1/2", false},
		{"for another number of jobs", two, 1, "1/7 2/7 4/7", false},
		{"one job", two, 1, "1/3 2/3", true},
		{"no jobs", two, 0, "1", true},
		{"no jobs, half a chance", two, 0, "1/2", false},
		{"no jobs, no chance", two, 0, "", false},
		{"no jobs, two chances", two, 0, "1 0", false},
		{"no jobs, another chance", two, 0, "2", false},
		{"one station", one, 5, "1", true},
		{"one station, 12 jobs", one, 12, "1", true},
		{"one station, 13 jobs", one, 13, "1", false},
		{"one station, -1 jobs", one, -1, "1", false},
		{"one station, half a chance", one, 5, "1/2", false},
		{"one station, a state for each job", one, 1, "1/2 1/2", false},
		{"-1 jobs, no chances", two, -1, "", false},
		{"13 jobs", two, 13, strings.Repeat("1/14 ", 14), false},
		{"12 jobs", shop("1 1", "0 1", "1 0"), 12, strings.Repeat("1/13 ", 13), true},
		{"ways that lead back", back, 1, "1/3 2/3", true},
		{"ways that lead back, as if they did not", back, 1, "1/2 1/2", false},
		{"ways that lead back, two jobs", back, 2, "1/7 2/7 4/7", true},
		{"ways that lead back from both", shop("1 1", "1/2 1/2", "1/3 2/3"), 1, "3/5 2/5", true},
		{"not in lowest terms", two, 2, "2/14 10/35 400/700", true},
		{"three jobs round", ring("1 1 1"), 1, "1/3 1/3 1/3", true},
		{"three that are not the same", ring("1 1 1"), 1, "1/3 1/6 1/2", false},
		// The last state of a list is the one in which station 0 has all jobs.
		{"the order of the states", ring("1 2 4"), 1, "1/7 2/7 4/7", true},
		{"another order of the states", ring("1 2 4"), 1, "4/7 2/7 1/7", false},
	} {
		if is := queue.Balances(x.s, x.n, rats(x.chances)); is != x.is {
			t.Errorf("%s: %v", x.about, is)
		}
	}
}

// altered returns lists that differ from l a little, most of which have the sum 1 too.
func altered(r *rand.Rand, l []*big.Rat) [][]*big.Rat {
	var out [][]*big.Rat
	clone := func() []*big.Rat {
		out = append(out, slices.Clone(l))
		return out[len(out)-1]
	}
	part := big.NewRat(1, 1_000_000)
	for i := range l {
		j := r.Intn(len(l))
		x := clone()
		x[i], x[j] = x[j], x[i]
		x = clone()
		x[i] = plus(x[i], part)
		x[j] = new(big.Rat).Sub(x[j], part)
		x = clone()
		x[i] = plus(x[i], x[j])
		x[j] = new(big.Rat)
		x = clone()
		x[i] = new(big.Rat).Neg(x[i])
		x = clone()
		x[i] = plus(x[i], part)
	}
	x := clone()
	for i := range x {
		x[i] = times(x[i], big.NewRat(2, 1))
	}
	x = clone()
	for i := range x {
		x[i] = big.NewRat(1, int64(len(x)))
	}
	out = append(out, l[1:], append(clone(), new(big.Rat)))
	return append(out, slices.Clone(l))
}

// TestBalancing compares with the definition (P7.5), and with the chances (P7.6).
func TestBalancing(t *testing.T) {
	r := rand.New(rand.NewSource(75))
	shops := []queue.Shop{one, two, back, three, ring("1 2 4")}
	for i := range 40 {
		shops = append(shops, sample(r, 1+i%4))
	}
	refused := 0
	for _, s := range shops {
		m, n := modelOf(t, s), r.Intn(5)
		right := m.chances(n)
		if l := smalls(right); list(l) != list(chances(t, s, n)) || !queue.Balances(s, n, l) {
			t.Fatalf("%v, %d jobs: %v", s, n, l)
		}
		for _, x := range altered(r, right) {
			want := m.balances(n, x)
			if is := queue.Balances(s, n, smalls(x)); is != want {
				t.Fatalf("%v, %d jobs: %v of %v", s, n, is, x)
			}
			if same := list(smalls(x)) == list(smalls(right)); same != want {
				t.Fatalf("%v, %d jobs: %v balance, or do not", s, n, x)
			}
			if !want {
				refused++
			}
		}
	}
	if refused < 500 {
		t.Errorf("%d refused", refused)
	}
}

// equations returns the rows of a system with a column for each state: that all states but the last one balance, and that the sum is 1.
func equations(m model, n int) [][]ratio.Rat {
	size := len(states(len(m.rates), n))
	rows := make([][]ratio.Rat, size)
	for i := range rows {
		unit := make([]*big.Rat, size)
		for j := range unit {
			unit[j] = new(big.Rat)
		}
		unit[i] = big.NewRat(1, 1)
		for j, r := range m.surplus(n, unit) {
			rows[j] = append(rows[j], small(r))
		}
	}
	for i := range rows[size-1] {
		rows[size-1][i] = ratio.Of(1)
	}
	return rows
}

// TestOnlyOne: the chances are the only solution of the equations (P7.6).
func TestOnlyOne(t *testing.T) {
	r := rand.New(rand.NewSource(76))
	for i := range 24 {
		stations := 1 + i%5
		n := []int{12, 12, 6, 3, 2}[stations-1]
		s := sample(r, stations)
		m := modelOf(t, s)
		rows := equations(m, n)
		b := make([]ratio.Rat, len(rows))
		b[len(b)-1] = ratio.Of(1)
		x, e := ratio.Solve(rows, b)
		if e != api.OK || list(x) != list(chances(t, s, n)) || !queue.Balances(s, n, x) {
			t.Errorf("%v, %d jobs: %v, %d", s, n, x, e)
		}
	}
}

// TestAllButTwo has lists that balance in all states but two, any two of them. (The surplus of all states together is 0, so no list balances in all states but one.)
func TestAllButTwo(t *testing.T) {
	for _, s := range []queue.Shop{two, back, three, shop("1 2 3", "1/2 1/2 0", "0 1/2 1/2", "1/3 1/3 1/3")} {
		m := modelOf(t, s)
		n := 2
		rows := equations(m, n)
		last := len(rows) - 1
		// A job more in state i and one less in state j is what differs: the solutions for each and the last state, one less the other.
		solutions := make([][]*big.Rat, len(rows))
		for i := range rows {
			b := make([]ratio.Rat, len(rows))
			b[last] = ratio.Of(1)
			if i < last {
				b[i] = small(big.NewRat(1, 100_000))
			}
			x, e := ratio.Solve(rows, b)
			if e != api.OK {
				t.Fatal(e)
			}
			solutions[i] = larges(x)
		}
		for i := range rows {
			for j := range i {
				x := make([]*big.Rat, len(rows))
				for k := range x {
					x[k] = plus(solutions[last][k], solutions[i][k], new(big.Rat).Neg(solutions[j][k]))
				}
				uneven := 0
				for k, r := range m.surplus(n, x) {
					if r.Sign() != 0 {
						uneven++
					}
					if (r.Sign() != 0) != (k == i || k == j) || x[k].Sign() <= 0 {
						t.Fatalf("%v: %d and %d: %v", s, i, j, x)
					}
				}
				if uneven != 2 || plus(x...).Cmp(big.NewRat(1, 1)) != 0 || queue.Balances(s, n, smalls(x)) {
					t.Errorf("%v: %d and %d: %v", s, i, j, x)
				}
			}
		}
	}
}

// TestGreatLists has lists with as many states as there can be, and with numbers of all sizes (P7.5, P1).
func TestGreatLists(t *testing.T) {
	s := ring("1 2 3 4 5 6 7 8")
	l := smalls(modelOf(t, s).chances(12))
	if !queue.Balances(s, 12, l) {
		t.Error("8 stations, 12 jobs")
	}
	last := len(l) - 1
	if queue.Balances(s, 12, l[:last]) || queue.Balances(s, 12, append(l[:last+1:last+1], ratio.Rat{})) || queue.Balances(s, 11, l) {
		t.Error("8 stations, 12 jobs, too few or too many chances")
	}
	l[last], l[last-1] = l[last-1], l[last]
	if queue.Balances(s, 12, l) {
		t.Error("8 stations, 12 jobs, the last two exchanged")
	}
	s = eight()
	l = chances(t, s, 3)
	if !queue.Balances(s, 3, l) {
		t.Error("8 stations with 6 digits")
	}
	l[0], l[1] = l[1], l[0]
	if queue.Balances(s, 3, l) {
		t.Error("8 stations with 6 digits, the first two exchanged")
	}
}

// TestNotSmall has lists with sums that are not small (P7.5, P1).
func TestNotSmall(t *testing.T) {
	// below returns a number that is less than 2 to the power of bits.
	below := func(bits uint, less int64) *big.Rat {
		bound := new(big.Int).Lsh(big.NewInt(1), bits)
		return new(big.Rat).SetInt(bound.Sub(bound, big.NewInt(less)))
	}
	whole, half := big.NewRat(1, 1), big.NewRat(1, 2)
	great, greater := below(api.MaxBits, 3), below(api.MaxBits, 1)
	part := over(whole, greater)
	rest := new(big.Rat).Sub(whole, part)
	// The first two lists have the sum 1, but are not small any more when they are made whole and multiplied by rates.
	fast := shop("999983 999979", "0 1", "1 0")
	for _, l := range [][]*big.Rat{{part, rest}, {rest, part}, {part, over(whole, great)}, {part, part}, {greater, greater}, {greater, new(big.Rat).Neg(great)}} {
		if queue.Balances(fast, 1, smalls(l)) || queue.Balances(two, 1, smalls(l)) {
			t.Error("great numbers balance")
		}
	}
	// Sums of 1 on the way to which there are sums, or a common denominator, that are not small.
	p, q := over(half, below(api.MaxBits-1, 1)), over(half, below(api.MaxBits-1, 3))
	fromP, fromQ := new(big.Rat).Sub(half, p), new(big.Rat).Sub(half, q)
	for _, l := range [][]*big.Rat{{p, q, fromP, fromQ}, {p, fromP, q, fromQ}} {
		if plus(l...).Cmp(whole) != 0 || queue.Balances(two, 3, smalls(l)) || queue.Balances(ring("1 2 4 5"), 1, smalls(l)) {
			t.Error("great numbers balance")
		}
	}
	for _, r := range notSmall(t) {
		if queue.Balances(two, 1, []ratio.Rat{r, r.Neg()}) || queue.Balances(two, 0, []ratio.Rat{r}) {
			t.Error("a fraction that is not small balances")
		}
		if queue.Check(queue.Shop{Rates: []ratio.Rat{r}, Ways: one.Ways}) != api.ErrShop || queue.Check(queue.Shop{Rates: one.Rates, Ways: [][]ratio.Rat{{r}}}) != api.ErrShop {
			t.Error("a fraction that is not small in a shop")
		}
	}
}

// notSmall returns fractions that are not small: those of a denial, and the same below 0.
func notSmall(t *testing.T) []ratio.Rat {
	t.Helper()
	r := rand.New(rand.NewSource(77))
	digits := func() ratio.Rat {
		text := "1"
		for range 59 {
			text += string(rune('0' + r.Intn(10)))
		}
		return rats(text)[0]
	}
	rows, b := make([][]ratio.Rat, 24), make([]ratio.Rat, 24)
	for i := range rows {
		for range 23 {
			x, _ := digits().Quo(digits())
			rows[i] = append(rows[i], x)
		}
		b[i], _ = digits().Quo(digits())
	}
	w, ok := ratio.Deny(rows, b)
	if !ok {
		t.Fatal("no denial")
	}
	if _, e := w[0].Add(ratio.Of(1)); e != api.ErrSize {
		t.Fatal("a small denial")
	}
	return []ratio.Rat{w[0], w[0].Neg(), w[1], w[1].Neg()}
}
