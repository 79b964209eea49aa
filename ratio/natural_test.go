package ratio

import (
	"math/big"
	"math/rand"
	"testing"
)

// toBig returns x as the library's number.
func toBig(x natural) *big.Int {
	out := new(big.Int)
	for i := len(x) - 1; i >= 0; i-- {
		out.Lsh(out, 32)
		out.Or(out, big.NewInt(int64(x[i])))
	}
	return out
}

// wild returns a number of up to n words, many of which are extreme: these make carries, borrows and wrong guesses likely.
func wild(r *rand.Rand, n int) natural {
	words := make([]uint32, r.Intn(n+1))
	for i := range words {
		switch r.Intn(6) {
		case 0:
			words[i] = 0
		case 1:
			words[i] = 1<<32 - 1
		case 2:
			words[i] = 1 << 31
		default:
			words[i] = r.Uint32() >> r.Intn(32)
		}
	}
	return trim(words)
}

func wellFormed(t *testing.T, x natural) {
	t.Helper()
	if len(x) == 0 && x != nil || len(x) > 0 && x[len(x)-1] == 0 || cap(x) != len(x) {
		t.Fatalf("words %v, capacity %d", x, cap(x))
	}
}

func same(t *testing.T, what string, got natural, want *big.Int) {
	t.Helper()
	wellFormed(t, got)
	if toBig(got).Cmp(want) != 0 {
		t.Fatalf("%s: %v, not %v", what, toBig(got), want)
	}
}

func TestNaturals(t *testing.T) {
	r := rand.New(rand.NewSource(1))
	for k := range 30000 {
		n := 1 + k%12
		x, y := wild(r, n), wild(r, n)
		a, b := toBig(x), toBig(y)
		same(t, "plus", x.plus(y), new(big.Int).Add(a, b))
		same(t, "times", x.times(y), new(big.Int).Mul(a, b))
		same(t, "common divisor", commonDivisor(x, y), new(big.Int).GCD(nil, nil, a, b))
		if x.compare(y) != a.Cmp(b) || x.bits() != a.BitLen() {
			t.Fatalf("compare, bits: %v, %v", a, b)
		}
		if a.Cmp(b) >= 0 {
			same(t, "minus", x.minus(y), new(big.Int).Sub(a, b))
		}
		if y != nil {
			q, rest := x.times(y).plus(x).over(y)
			m, n := new(big.Int).QuoRem(toBig(x.times(y).plus(x)), b, new(big.Int))
			same(t, "quotient", q, m)
			same(t, "rest", rest, n)
		}
		if toBig(x).Cmp(a) != 0 || toBig(y).Cmp(b) != 0 {
			t.Fatal("an argument has changed")
		}
	}
}

// TestWrongGuess divides numbers whose quotient's digit is guessed one too great, after the correction by the second word.
func TestWrongGuess(t *testing.T) {
	x, y := natural{0, 0, 1 << 31, 1<<31 - 1}, natural{1, 0, 1 << 31}
	q, rest := x.over(y)
	m, n := new(big.Int).QuoRem(toBig(x), toBig(y), new(big.Int))
	same(t, "quotient", q, m)
	same(t, "rest", rest, n)
}

// TestLongNaturals multiplies and divides numbers of so many words that they are cut, of equal and of very different lengths.
func TestLongNaturals(t *testing.T) {
	r := rand.New(rand.NewSource(2))
	for _, lengths := range [][2]int{{long, long}, {2*long - 1, long}, {2 * long, long}, {500, 500}, {501, 250}, {501, 251}, {900, 45}, {2000, 1999}} {
		for range 8 {
			x, y := wild(r, lengths[0]), wild(r, lengths[1])
			x, y = append(x, make([]uint32, lengths[0]-len(x))...), append(y, make([]uint32, lengths[1]-len(y))...)
			x[len(x)-1], y[len(y)-1] = 1+r.Uint32()>>1, 1+r.Uint32()>>1
			x, y = trim(x), trim(y)
			same(t, "times", x.times(y), new(big.Int).Mul(toBig(x), toBig(y)))
			q, rest := x.over(y)
			m, n := new(big.Int).QuoRem(toBig(x), toBig(y), new(big.Int))
			same(t, "quotient", q, m)
			same(t, "rest", rest, n)
			z := wild(r, 100).plus(natural{1})
			same(t, "common divisor", commonDivisor(x.times(z), y.times(z)), new(big.Int).GCD(nil, nil, toBig(x.times(z)), toBig(y.times(z))))
		}
	}
}

// TestFibonacci takes the common divisor of numbers for which Euclid's algorithm needs the most steps.
func TestFibonacci(t *testing.T) {
	x, y := natural{1}, natural{1}
	for range 3000 {
		x, y = x.plus(y), x
	}
	if d := commonDivisor(x, y); !d.isOne() {
		t.Errorf("%v", toBig(d))
	}
	same(t, "common divisor", commonDivisor(x.times(x), y.times(x)), toBig(x))
}

func TestDecimal(t *testing.T) {
	r := rand.New(rand.NewSource(3))
	for k := range 3000 {
		x := wild(r, 1+k%40)
		s := x.decimal()
		if s != toBig(x).String() {
			t.Fatalf("%s, not %v", s, toBig(x))
		}
		same(t, "numeral", naturalFrom(s), toBig(x))
	}
	for _, s := range []string{"1000000000", "999999999", "1000000000000000000", "10000000000000000000000000001"} {
		if got := naturalFrom(s).decimal(); got != s {
			t.Errorf("%s, not %s", got, s)
		}
	}
}

func TestPower(t *testing.T) {
	for n := range 40 {
		same(t, "power", natural{7}.power(n), new(big.Int).Exp(big.NewInt(7), big.NewInt(int64(n)), nil))
	}
}
