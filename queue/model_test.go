package queue_test

import (
	"fmt"
	"math/big"
	"math/rand"
	"strings"
	"testing"

	"minikin/api"
	"minikin/queue"
	"minikin/ratio"
)

// rats returns the fractions in a text, which need not be in lowest terms.
func rats(text string) []ratio.Rat {
	var out []ratio.Rat
	for _, s := range strings.Fields(text) {
		r, ok := new(big.Rat).SetString(s)
		if !ok {
			panic(s)
		}
		out = append(out, small(r))
	}
	return out
}

// shop returns the shop with the rates and the rows in texts.
func shop(rates string, rows ...string) queue.Shop {
	s := queue.Shop{Rates: rats(rates)}
	for _, row := range rows {
		s.Ways = append(s.Ways, rats(row))
	}
	return s
}

// large and small turn fractions into those of math/big and back.
func large(r ratio.Rat) *big.Rat {
	out, _ := new(big.Rat).SetString(r.String())
	return out
}

func small(r *big.Rat) ratio.Rat {
	text := r.Num().String()
	if !r.IsInt() {
		text = r.String()
	}
	out, e := ratio.Parse(text)
	if e != api.OK {
		panic("a fraction that is not small")
	}
	return out
}

func larges(list []ratio.Rat) []*big.Rat {
	var out []*big.Rat
	for _, r := range list {
		out = append(out, large(r))
	}
	return out
}

func smalls(list []*big.Rat) []ratio.Rat {
	var out []ratio.Rat
	for _, r := range list {
		out = append(out, small(r))
	}
	return out
}

func plus(list ...*big.Rat) *big.Rat {
	out := new(big.Rat)
	for _, r := range list {
		out.Add(out, r)
	}
	return out
}

func times(list ...*big.Rat) *big.Rat {
	out := big.NewRat(1, 1)
	for _, r := range list {
		out.Mul(out, r)
	}
	return out
}

func over(a, b *big.Rat) *big.Rat {
	return new(big.Rat).Quo(a, b)
}

// power multiplies n times.
func power(r *big.Rat, n int) *big.Rat {
	out := big.NewRat(1, 1)
	for range n {
		out.Mul(out, r)
	}
	return out
}

// model is a shop as the chapter defines it, with fractions of math/big and all of its states.
type model struct {
	rates, visits []*big.Rat
	ways          [][]*big.Rat
}

// modelOf returns the model of a shop. Its visits are those of Visits, which must be visits.
func modelOf(t *testing.T, s queue.Shop) model {
	t.Helper()
	visits, e := queue.Visits(s)
	if e != api.OK || len(visits) != len(s.Rates) {
		t.Fatalf("%v: Visits %v, %d", s, visits, e)
	}
	m := model{rates: larges(s.Rates), visits: larges(visits)}
	for _, row := range s.Ways {
		m.ways = append(m.ways, larges(row))
	}
	for j, visit := range m.visits {
		in := new(big.Rat)
		for i := range m.ways {
			in = plus(in, times(m.visits[i], m.ways[i][j]))
		}
		if in.Cmp(visit) != 0 || j == 0 && visit.Cmp(big.NewRat(1, 1)) != 0 {
			t.Fatalf("%v: Visits %v", s, visits)
		}
	}
	return m
}

// states returns all states with n jobs, ordered as lists.
func states(stations, n int) [][]int {
	if stations == 1 {
		return [][]int{{n}}
	}
	var out [][]int
	for first := range n + 1 {
		for _, others := range states(stations-1, n-first) {
			out = append(out, append([]int{first}, others...))
		}
	}
	return out
}

func (m model) weight(x []int) *big.Rat {
	out := big.NewRat(1, 1)
	for i, n := range x {
		out = times(out, power(over(m.visits[i], m.rates[i]), n))
	}
	return out
}

func (m model) constant(n int) *big.Rat {
	out := new(big.Rat)
	for _, x := range states(len(m.rates), n) {
		out.Add(out, m.weight(x))
	}
	return out
}

// chances returns the chances of all states with n jobs.
func (m model) chances(n int) []*big.Rat {
	var out []*big.Rat
	constant := m.constant(n)
	for _, x := range states(len(m.rates), n) {
		out = append(out, over(m.weight(x), constant))
	}
	return out
}

// average returns the sum of the chances of the states with n jobs, each times what f says.
func (m model) average(n int, f func(x []int) int) *big.Rat {
	out, chances := new(big.Rat), m.chances(n)
	for number, x := range states(len(m.rates), n) {
		out.Add(out, times(chances[number], big.NewRat(int64(f(x)), 1)))
	}
	return out
}

func (m model) atLeast(station, k, n int) *big.Rat {
	return m.average(n, func(x []int) int {
		if x[station] >= k {
			return 1
		}
		return 0
	})
}

func (m model) speed(station, n int) *big.Rat {
	return times(m.rates[station], m.atLeast(station, 1, n))
}

func (m model) length(station, n int) *big.Rat {
	return m.average(n, func(x []int) int { return x[station] })
}

func (m model) time(station, n int) *big.Rat {
	if n == 0 {
		return new(big.Rat)
	}
	return over(m.length(station, n), m.speed(station, n))
}

func (m model) seen(station int, x []int) *big.Rat {
	n := 1
	for _, jobs := range x {
		n += jobs
	}
	in, constant := new(big.Rat), m.constant(n)
	for i := range m.rates {
		from := append([]int(nil), x...)
		from[i]++
		in = plus(in, times(m.rates[i], m.ways[i][station], over(m.weight(from), constant)))
	}
	return over(in, m.speed(station, n))
}

// surplus returns for each state what flows out of it less what flows into it, shift by shift.
func (m model) surplus(n int, chances []*big.Rat) []*big.Rat {
	all := states(len(m.rates), n)
	place := map[string]int{}
	out := make([]*big.Rat, len(all))
	for number, x := range all {
		place[fmt.Sprint(x)] = number
		out[number] = new(big.Rat)
	}
	for number, x := range all {
		for i := range x {
			if x[i] == 0 {
				continue
			}
			for j := range x {
				to := append([]int(nil), x...)
				to[i]--
				to[j]++
				flow := times(chances[number], m.rates[i], m.ways[i][j])
				out[number].Add(out[number], flow)
				target := out[place[fmt.Sprint(to)]]
				target.Sub(target, flow)
			}
		}
	}
	return out
}

// balances is the definition of Balances for an n that is in range.
func (m model) balances(n int, chances []*big.Rat) bool {
	if len(chances) != len(states(len(m.rates), n)) || plus(chances...).Cmp(big.NewRat(1, 1)) != 0 {
		return false
	}
	for _, r := range chances {
		if r.Sign() < 0 {
			return false
		}
	}
	for _, r := range m.surplus(n, chances) {
		if r.Sign() != 0 {
			return false
		}
	}
	return true
}

// sample returns a shop of so many stations: some of the ways have the chance 0, and some numbers have 6 digits.
func sample(r *rand.Rand, stations int) queue.Shop {
	s := queue.Shop{}
	most := []int64{4, 30, 999_999}[r.Intn(3)]
	rare := 1 + r.Intn(4)
	for i := range stations {
		s.Rates = append(s.Rates, small(big.NewRat(1+r.Int63n(most), 1+r.Int63n(most))))
		parts, all := make([]int64, stations), int64(0)
		for j := range parts {
			if j == (i+1)%stations || r.Intn(rare) == 0 {
				parts[j] = 1 + r.Int63n(most/int64(stations)+1)
			}
			all += parts[j]
		}
		if all > 999_999 {
			panic(all)
		}
		var row []ratio.Rat
		for _, part := range parts {
			row = append(row, small(big.NewRat(part, all)))
		}
		s.Ways = append(s.Ways, row)
	}
	return s
}

// Shops that the tests share.
var (
	one   = shop("3", "1")
	two   = shop("1 2", "0 1", "1 0")
	back  = shop("1 1", "1/2 1/2", "1 0")
	three = shop("3 2/3 5", "1/2 1/3 1/6", "1 0 0", "1/4 1/4 1/2")
)

// ring returns the shop in which jobs go from each station to the next one.
func ring(rates string) queue.Shop {
	s := queue.Shop{Rates: rats(rates)}
	for i := range s.Rates {
		row := make([]ratio.Rat, len(s.Rates))
		row[(i+1)%len(row)] = ratio.Of(1)
		s.Ways = append(s.Ways, row)
	}
	return s
}

// eight has as many stations as there can be, and numbers with as many digits.
func eight() queue.Shop {
	s := queue.Shop{}
	for i := range int64(8) {
		s.Rates = append(s.Rates, small(big.NewRat(999_999-i, 999_983-i)))
		var row []ratio.Rat
		// Pairs of 4 denominators, of which each has the sum 1/4.
		for j := range int64(4) {
			below := 249_999 - 4*i - j
			part := 1_000 + 7*i + j
			row = append(row, small(big.NewRat(part, 4*below)), small(big.NewRat(below-part, 4*below)))
		}
		s.Ways = append(s.Ways, row)
	}
	return s
}

// list writes fractions as a text.
func list(l []ratio.Rat) string {
	var out []string
	for _, r := range l {
		out = append(out, r.String())
	}
	return strings.Join(out, " ")
}
