package ratio

import (
	"math/big"
	"math/rand"
	"testing"
)

// exact is the field of all fractions: with it elimination, which works over any field, shows what the primes should lead to.
type exact struct{}

func (exact) Minus(a, b Rat) Rat { return add(a, b.Neg()) }
func (exact) Times(a, b Rat) Rat { return multiply(a, b) }
func (exact) Over(a, b Rat) Rat  { return multiply(a, inverse(b)) }
func (exact) IsZero(a Rat) bool  { return a.Sign() == 0 }

func TestPrimes(t *testing.T) {
	count, before := 0, uint64(1<<31)
	for f := range primes() {
		for p := before - 1; p > f.p; p-- {
			if big.NewInt(int64(p)).ProbablyPrime(0) {
				t.Fatalf("%d is left out", p)
			}
		}
		if !big.NewInt(int64(f.p)).ProbablyPrime(0) {
			t.Fatalf("%d is no prime", f.p)
		}
		before = f.p
		if count++; count == 300 {
			break
		}
	}
	// Composite numbers that are prime for some of the bases.
	for _, p := range []uint32{2047, 1373653, 25326001, 1<<31 - 3, 46337 * 46337} {
		if fieldOf(p).isPrime() {
			t.Errorf("%d", p)
		}
	}
}

func TestPrimeField(t *testing.T) {
	r := rand.New(rand.NewSource(4))
	f := fieldOf(1<<31 - 1)
	for range 20000 {
		x := r.Uint64()
		if f.reduce(x) != uint32(x%f.p) {
			t.Fatalf("residue of %d", x)
		}
		a, b := uint32(x%f.p), uint32(r.Uint64()%(f.p-1))+1
		if f.Times(f.Over(a, b), b) != a || uint64(f.Minus(a, b)) != (uint64(a)+f.p-uint64(b))%f.p {
			t.Fatalf("%d and %d", a, b)
		}
		n := wild(r, 9)
		if uint64(f.residue(n)) != new(big.Int).Mod(toBig(n), big.NewInt(1<<31-1)).Uint64() {
			t.Fatalf("residue of %v", toBig(n))
		}
	}
	for _, x := range []uint64{0, f.p - 1, f.p, 2*f.p - 1, 1<<64 - 1, (1<<64 - 1) / f.p * f.p, (1<<64-1)/f.p*f.p - 1} {
		if f.reduce(x) != uint32(x%f.p) {
			t.Errorf("residue of %d", x)
		}
	}
}

// sample returns a table whose last columns and rows often depend on others.
func sample(r *rand.Rand, n, m int) [][]Rat {
	rows := make([][]Rat, n)
	for i := range rows {
		rows[i] = make([]Rat, m)
		for j := range rows[i] {
			rows[i][j], _ = Make(int64(r.Intn(7)-3), int64(1+r.Intn(3)))
		}
	}
	for i := 2; i < n; i++ {
		if r.Intn(2) == 0 {
			for j := range rows[i] {
				rows[i][j] = add(rows[0][j], multiply(Of(3), rows[1][j]))
			}
		}
	}
	return rows
}

func copyRows(rows [][]Rat) [][]Rat {
	out := make([][]Rat, len(rows))
	for i, row := range rows {
		out[i] = append([]Rat(nil), row...)
	}
	return out
}

// TestExplore compares what is found modulo primes with elimination over fractions.
func TestExplore(t *testing.T) {
	r := rand.New(rand.NewSource(5))
	for range 2000 {
		n, m := 1+r.Intn(6), 1+r.Intn(6)
		rows := sample(r, n, m)
		s := tableOf(rows).explore()
		joint := eliminate(exact{}, copyRows(rows))
		left := copyRows(rows)
		for i := range left {
			left[i] = left[i][:m-1]
		}
		if rank := eliminate(exact{}, left); s.rank != len(rank.columns) || s.joint != len(joint.columns) {
			t.Fatalf("%v: rank %d, joint %d", rows, s.rank, s.joint)
		}
		var square [][]Rat
		for _, i := range s.rows {
			var row []Rat
			for _, j := range s.columns {
				row = append(row, rows[i][j])
			}
			square = append(square, append(row, Of(int64(r.Intn(9)))))
		}
		if len(square) == 0 {
			continue
		}
		e := eliminate(exact{}, copyRows(square))
		if len(e.columns) != len(square) || e.columns[len(square)-1] != len(square)-1 {
			t.Fatalf("%v: rows %v and columns %v depend on each other", rows, s.rows, s.columns)
		}
		want := e.solution(exact{})
		for i, x := range tableOf(square).solve(anySize) {
			if x.Cmp(want[i]) != 0 {
				t.Fatalf("%v: %v, not %v", square, x, want)
			}
		}
	}
}

// TestUnluckyPrimes has systems that look otherwise modulo the first prime, or the first two.
func TestUnluckyPrimes(t *testing.T) {
	p := Of(1<<31 - 1)
	product := multiply(p, Of(1<<31-19))
	if f := fieldOf(1<<31 - 19); !f.isPrime() {
		t.Fatal("not the second prime")
	}
	for _, x := range []Rat{p, product, inverse(p), inverse(product), add(product, Of(1))} {
		rows := [][]Rat{{x, {}}, {Of(1), x}}
		if n, _ := Rank(rows); n != 2 {
			t.Errorf("%v: rank %d", x, n)
		}
		got, e := Solve(rows, []Rat{Of(1), {}})
		if e != 0 || got[0].Cmp(inverse(x)) != 0 || got[1].Cmp(multiply(inverse(x), inverse(x)).Neg()) != 0 {
			t.Errorf("%v: %v, %d", x, got, e)
		}
		if w, ok := Deny([][]Rat{{Of(1)}, {x}, {Of(1)}}, []Rat{Of(1), x, x}); x.Cmp(Of(1)) != 0 && (!ok || !Denies([][]Rat{{Of(1)}, {x}, {Of(1)}}, []Rat{Of(1), x, x}, w)) {
			t.Errorf("%v: denial %v, %v", x, w, ok)
		}
		if _, ok := Deny([][]Rat{{x}, {x}}, []Rat{Of(1), Of(1)}); ok {
			t.Errorf("%v: a denial of a system with a solution", x)
		}
	}
}

func TestDeterminant(t *testing.T) {
	rows := [][]Rat{{{}, Of(2), {}}, {Of(3), {}, {}}}
	if d := eliminate(exact{}, rows).determinant(exact{}); d.Cmp(Of(-6)) != 0 {
		t.Errorf("%v", d)
	}
}
