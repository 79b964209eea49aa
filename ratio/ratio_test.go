package ratio_test

import (
	"math"
	"math/big"
	"math/rand"
	"reflect"
	"strings"
	"testing"

	"minikin/api"
	"minikin/ratio"
)

// rat returns the fraction that s means.
func rat(t *testing.T, s string) ratio.Rat {
	t.Helper()
	r, e := ratio.Parse(s)
	if e != api.OK {
		t.Fatalf("Parse(%.50s): %d", s, e)
	}
	return r
}

func rats(t *testing.T, list ...string) []ratio.Rat {
	t.Helper()
	var out []ratio.Rat
	for _, s := range list {
		out = append(out, rat(t, s))
	}
	return out
}

// want checks a result and the error next to it; with an error the result must be the zero value.
func want(t *testing.T, what string, r ratio.Rat, e api.Errno, s string, due api.Errno) {
	t.Helper()
	if due != api.OK {
		s = "0"
	}
	if e != due || r.String() != s {
		t.Errorf("%s: %.50v, %d, not %.50s, %d", what, r, e, s, due)
	}
	if due != api.OK && !reflect.DeepEqual(r, ratio.Rat{}) {
		t.Errorf("%s: not the zero value", what)
	}
}

// two returns 2 to the power of n, more or less by.
func two(n int, by int64) string {
	x := new(big.Int).Lsh(big.NewInt(1), uint(n))
	return x.Add(x, big.NewInt(by)).String()
}

// P1.1
func TestOfAndMake(t *testing.T) {
	for _, n := range []int64{0, 1, -1, 42, math.MaxInt64, math.MinInt64, math.MinInt64 + 1, 1 << 32, -1 << 32} {
		r := ratio.Of(n)
		if r.String() != big.NewInt(n).String() {
			t.Errorf("Of(%d): %v", n, r)
		}
		if m, ok := r.Int64(); m != n || !ok {
			t.Errorf("Int64 of %d: %d, %v", n, m, ok)
		}
	}
	for _, c := range []struct {
		a, b int64
		s    string
		e    api.Errno
	}{
		{1, 2, "1/2", api.OK}, {-6, 4, "-3/2", api.OK}, {6, -4, "-3/2", api.OK}, {-6, -4, "3/2", api.OK}, {0, -5, "0", api.OK}, {8, 4, "2", api.OK}, {7, 7, "1", api.OK},
		{math.MinInt64, -1, "9223372036854775808", api.OK}, {math.MinInt64, math.MinInt64, "1", api.OK}, {1, math.MinInt64, "-1/9223372036854775808", api.OK},
		{math.MaxInt64, math.MinInt64, "-9223372036854775807/9223372036854775808", api.OK},
		{1, 0, "", api.ErrZero}, {0, 0, "", api.ErrZero}, {math.MinInt64, 0, "", api.ErrZero},
	} {
		r, e := ratio.Make(c.a, c.b)
		want(t, "Make", r, e, c.s, c.e)
	}
}

// P1.1
func TestZeroValue(t *testing.T) {
	var zero ratio.Rat
	if zero.String() != "0" || zero.Sign() != 0 || zero.Den().String() != "1" || zero.Num().String() != "0" || zero.Cmp(ratio.Of(0)) != 0 || zero.Floor().String() != "0" {
		t.Error("the zero value is not 0")
	}
	r, e := zero.Add(rat(t, "1/2"))
	want(t, "0 + 1/2", r, e, "1/2", api.OK)
	if !reflect.DeepEqual(ratio.Of(0), zero) || !reflect.DeepEqual(zero.Neg(), zero) {
		t.Error("two forms of 0")
	}
}

// P1.1
func TestParse(t *testing.T) {
	for _, s := range []string{"0", "1", "-1", "10", "1/2", "-1/2", "12345678901234567890123", "-4294967296/4294967295", "1000000000", "999999999/1000000000", "340282366920938463463374607431768211456"} {
		if got := rat(t, s).String(); got != s {
			t.Errorf("%s, not %s", got, s)
		}
	}
	for _, s := range []string{"", "-", "+1", "-0", "00", "01", "-01", "4/2", "3/1", "0/1", "0/5", "-0/5", "1/0", "0/0", "1/", "/", "/2", "-/2", "1/-2", "--1", "1/02", "1/2/3", "1/2/", " 1", "1 ", "1/ 2", "1_0", "1.5", "1e3", "0x1", "a", "1/a", "6/4", "٣", "1\x00", "-6/9", "1-", "1:", "1/3\n"} {
		r, e := ratio.Parse(s)
		want(t, "Parse "+s, r, e, "", api.ErrForm)
	}
}

// P1.1
func TestParseLimits(t *testing.T) {
	nines := strings.Repeat("9", 40000)
	for _, c := range []struct {
		name, s string
		e       api.Errno
	}{
		{"the greatest", two(api.MaxBits, -1), api.OK}, {"too great", two(api.MaxBits, 0), api.ErrSize}, {"the least", "-" + two(api.MaxBits, -1), api.OK}, {"too little", "-" + two(api.MaxBits, 0), api.ErrSize},
		{"greatest denominator", "1/" + two(api.MaxBits, -1), api.OK}, {"too great a denominator", "1/" + two(api.MaxBits, 0), api.ErrSize},
		{"both great", two(api.MaxBits, -1) + "/" + two(api.MaxBits, -2), api.OK},
		{"70000 bytes", strings.Repeat("9", 70000), api.ErrSize}, {"70000 bytes, no number", strings.Repeat("9", 69999) + "x", api.ErrForm}, {"70000 bytes, leading zero", strings.Repeat("0", 70000), api.ErrForm},
		{"70001 bytes", strings.Repeat("9", 70001), api.ErrLong}, {"70001 bytes, no number", strings.Repeat("x", 70001), api.ErrLong},
		{"a large fraction that is not in lowest terms", nines + "/" + strings.Repeat("3", 29999), api.ErrForm}, {"a large fraction", nines + "/" + two(90000, 0), api.ErrSize},
	} {
		r, e := ratio.Parse(c.s)
		want(t, c.name, r, e, c.s, c.e)
	}
}

// P1.1
func TestInt64(t *testing.T) {
	for _, c := range []struct {
		s  string
		n  int64
		ok bool
	}{
		{"0", 0, true}, {"9223372036854775807", math.MaxInt64, true}, {"9223372036854775808", 0, false}, {"-9223372036854775808", math.MinInt64, true}, {"-9223372036854775809", 0, false},
		{"18446744073709551616", 0, false}, {"-18446744073709551616", 0, false}, {"18446744073709551615", 0, false}, {"79228162514264337593543950337", 0, false}, {"1/2", 0, false}, {"-7/3", 0, false}, {"4294967296", 1 << 32, true},
	} {
		if n, ok := rat(t, c.s).Int64(); n != c.n || ok != c.ok {
			t.Errorf("%s: %d, %v", c.s, n, ok)
		}
	}
}

// P1.1
func TestParts(t *testing.T) {
	for _, c := range []struct {
		s, num, den, floor string
		sign               int
	}{
		{"0", "0", "1", "0", 0}, {"5", "5", "1", "5", 1}, {"-5", "-5", "1", "-5", -1}, {"7/2", "7", "2", "3", 1}, {"-7/2", "-7", "2", "-4", -1}, {"1/3", "1", "3", "0", 1}, {"-1/3", "-1", "3", "-1", -1},
		{"18446744073709551617/4294967296", "18446744073709551617", "4294967296", "4294967296", 1}, {"-18446744073709551617/4294967296", "-18446744073709551617", "4294967296", "-4294967297", -1}, {"-4294967295/2", "-4294967295", "2", "-2147483648", -1},
	} {
		r := rat(t, c.s)
		if r.Num().String() != c.num || r.Den().String() != c.den || r.Floor().String() != c.floor || r.Sign() != c.sign {
			t.Errorf("%s: %v, %v, %v, %d", c.s, r.Num(), r.Den(), r.Floor(), r.Sign())
		}
	}
	f := rat(t, two(api.MaxBits, -1)+"/2").Floor()
	if f.String() != two(api.MaxBits-1, -1) {
		t.Error("Floor of the greatest half")
	}
}

// P1.1
func TestCmp(t *testing.T) {
	rising := rats(t, "-18446744073709551616", "-4294967296", "-7/2", "-10/3", "-1/2", "-1/3", "0", "1/1000000000000", "1/3", "1/2", "2/3", "1", "4294967296", "4294967297", "18446744073709551616/3", "18446744073709551616")
	for i, r := range rising {
		for j, s := range rising {
			due := 0
			if i < j {
				due = -1
			} else if i > j {
				due = 1
			}
			if c := r.Cmp(s); c != due {
				t.Errorf("%v and %v: %d", r, s, c)
			}
		}
	}
}

type operation func(r, s ratio.Rat) (ratio.Rat, api.Errno)

// P1.2
func TestArithmetic(t *testing.T) {
	for _, c := range []struct {
		name string
		do   operation
		r, s string
		due  string
		e    api.Errno
	}{
		{"add", ratio.Rat.Add, "1/3", "1/6", "1/2", api.OK}, {"add", ratio.Rat.Add, "1/2", "-1/2", "0", api.OK}, {"add", ratio.Rat.Add, "-1/6", "-1/3", "-1/2", api.OK}, {"add", ratio.Rat.Add, "4294967295", "1", "4294967296", api.OK},
		{"add", ratio.Rat.Add, "2/3", "1/3", "1", api.OK}, {"add", ratio.Rat.Add, "3", "-5", "-2", api.OK}, {"add", ratio.Rat.Add, "-3", "5", "2", api.OK}, {"add", ratio.Rat.Add, "0", "0", "0", api.OK},
		{"sub", ratio.Rat.Sub, "1/3", "1/3", "0", api.OK}, {"sub", ratio.Rat.Sub, "0", "5/7", "-5/7", api.OK}, {"sub", ratio.Rat.Sub, "-1", "-1/2", "-1/2", api.OK}, {"sub", ratio.Rat.Sub, "18446744073709551616", "1", "18446744073709551615", api.OK},
		{"mul", ratio.Rat.Mul, "2/3", "3/2", "1", api.OK}, {"mul", ratio.Rat.Mul, "-2/3", "9/4", "-3/2", api.OK}, {"mul", ratio.Rat.Mul, "0", "-9/4", "0", api.OK}, {"mul", ratio.Rat.Mul, "-4", "-1/4", "1", api.OK}, {"mul", ratio.Rat.Mul, "0", "0", "0", api.OK},
		{"quo", ratio.Rat.Quo, "2/3", "-4/9", "-3/2", api.OK}, {"quo", ratio.Rat.Quo, "0", "-4/9", "0", api.OK}, {"quo", ratio.Rat.Quo, "6", "3", "2", api.OK}, {"quo", ratio.Rat.Quo, "1", "-2", "-1/2", api.OK},
		{"quo", ratio.Rat.Quo, "1", "0", "", api.ErrZero}, {"quo", ratio.Rat.Quo, "0", "0", "", api.ErrZero}, {"quo", ratio.Rat.Quo, "-1/2", "0", "", api.ErrZero},
	} {
		r, e := c.do(rat(t, c.r), rat(t, c.s))
		want(t, c.r+" "+c.name+" "+c.s, r, e, c.due, c.e)
	}
}

// P1.2: results that are just small, and just not.
func TestSizes(t *testing.T) {
	most, half := two(api.MaxBits, -1), two(api.MaxBits-1, 0)
	for _, c := range []struct {
		name string
		do   operation
		r, s string
		due  string
		e    api.Errno
	}{
		{"add to the greatest", ratio.Rat.Add, two(api.MaxBits, -2), "1", most, api.OK}, {"add beyond", ratio.Rat.Add, most, "1", "", api.ErrSize}, {"add halves", ratio.Rat.Add, half, half, "", api.ErrSize}, {"add a half", ratio.Rat.Add, most, "1/2", "", api.ErrSize},
		{"add denominators", ratio.Rat.Add, "1/" + two(60000, -1), "1/" + two(60000, 1), "", api.ErrSize}, {"add 0", ratio.Rat.Add, "1/" + most, "0", "1/" + most, api.OK}, {"cancel", ratio.Rat.Add, "1/" + most, "-1/" + most, "0", api.OK},
		{"sub to the least", ratio.Rat.Sub, "-" + two(api.MaxBits, -2), "1", "-" + most, api.OK}, {"sub beyond", ratio.Rat.Sub, "-" + most, "1", "", api.ErrSize},
		{"mul to the greatest", ratio.Rat.Mul, two(api.MaxBits/2, -1), two(api.MaxBits/2, 1), most, api.OK}, {"mul beyond", ratio.Rat.Mul, half, "2", "", api.ErrSize}, {"mul beyond below", ratio.Rat.Mul, "1/" + half, "-1/2", "", api.ErrSize}, {"mul and cancel", ratio.Rat.Mul, most + "/2", "2/" + most, "1", api.OK},
		{"quo to the greatest", ratio.Rat.Quo, two(api.MaxBits/2, -1), "1/" + two(api.MaxBits/2, 1), most, api.OK}, {"quo beyond", ratio.Rat.Quo, half, "1/2", "", api.ErrSize}, {"quo beyond below", ratio.Rat.Quo, "1/2", half, "", api.ErrSize}, {"quo and cancel", ratio.Rat.Quo, most, most, "1", api.OK},
	} {
		r, e := c.do(rat(t, c.r), rat(t, c.s))
		want(t, c.name, r, e, c.due, c.e)
	}
}

// P1.2
func TestPow(t *testing.T) {
	for _, c := range []struct {
		s   string
		n   int
		due string
		e   api.Errno
	}{
		{"-2/3", -3, "-27/8", api.OK}, {"-2/3", 3, "-8/27", api.OK}, {"-2/3", 2, "4/9", api.OK}, {"-2/3", -2, "9/4", api.OK}, {"5/7", 1, "5/7", api.OK}, {"5/7", -1, "7/5", api.OK}, {"-5", -1, "-1/5", api.OK},
		{"0", 0, "1", api.OK}, {"0", 1, "0", api.OK}, {"0", 1000, "0", api.OK}, {"5/7", 0, "1", api.OK}, {"-1", 999, "-1", api.OK}, {"-1", -1000, "1", api.OK}, {"2", 1000, two(1000, 0), api.OK}, {"2", -1000, "1/" + two(1000, 0), api.OK},
		{"0", -1, "", api.ErrZero}, {"0", -1000, "", api.ErrZero}, {"0", -1001, "", api.ErrArg}, {"2", 1001, "", api.ErrArg}, {"2", -1001, "", api.ErrArg}, {"1", math.MaxInt, "", api.ErrArg}, {"0", math.MinInt, "", api.ErrArg},
		{two(100, 0), 999, two(99900, 0), api.OK}, {two(100, 0), -999, "1/" + two(99900, 0), api.OK}, {two(100, 0), 1000, "", api.ErrSize}, {two(100, 0), -1000, "", api.ErrSize}, {"1/" + two(100, 0), 1000, "", api.ErrSize}, {two(1000, 0), 100, "", api.ErrSize}, {two(api.MaxBits, -1), 1000, "", api.ErrSize}, {two(api.MaxBits, -1), 0, "1", api.OK}, {two(api.MaxBits, -1), 1, two(api.MaxBits, -1), api.OK},
		{two(100, -1), 1000, new(big.Int).Exp(new(big.Int).Sub(new(big.Int).Lsh(big.NewInt(1), 100), big.NewInt(1)), big.NewInt(1000), nil).String(), api.OK}, {two(100, 1), 1000, "", api.ErrSize},
	} {
		r, e := rat(t, c.s).Pow(c.n)
		want(t, "Pow", r, e, c.due, c.e)
	}
}

// random returns a fraction of up to so many bits, in both forms.
func random(t *testing.T, r *rand.Rand, size int) (ratio.Rat, *big.Rat) {
	t.Helper()
	part := func() *big.Int {
		return new(big.Int).Rand(r, new(big.Int).Lsh(big.NewInt(1), uint(1+r.Intn(size))))
	}
	b := new(big.Rat).SetFrac(part(), new(big.Int).Add(part(), big.NewInt(1)))
	if r.Intn(2) == 0 {
		b.Neg(b)
	}
	return rat(t, b.RatString()), b
}

// P1.1, P1.2: the same results as the library's.
func TestAgainstLibrary(t *testing.T) {
	r := rand.New(rand.NewSource(6))
	for k := range 3000 {
		size := 1 + k%300
		x, a := random(t, r, size)
		y, b := random(t, r, size)
		check := func(what string, got ratio.Rat, e api.Errno, due *big.Rat) {
			t.Helper()
			want(t, what, got, e, due.RatString(), api.OK)
		}
		sum, e := x.Add(y)
		check("sum", sum, e, new(big.Rat).Add(a, b))
		difference, e := x.Sub(y)
		check("difference", difference, e, new(big.Rat).Sub(a, b))
		product, e := x.Mul(y)
		check("product", product, e, new(big.Rat).Mul(a, b))
		if b.Sign() != 0 {
			quotient, e := x.Quo(y)
			check("quotient", quotient, e, new(big.Rat).Quo(a, b))
		}
		check("negative", x.Neg(), api.OK, new(big.Rat).Neg(a))
		check("floor", x.Floor(), api.OK, new(big.Rat).SetInt(new(big.Int).Div(a.Num(), a.Denom())))
		if x.Cmp(y) != a.Cmp(b) || x.Sign() != a.Sign() {
			t.Errorf("%v and %v: %d, %d", a, b, x.Cmp(y), x.Sign())
		}
	}
}

// must returns a function that takes a result whose error must be OK.
func must(t *testing.T) func(r ratio.Rat, e api.Errno) ratio.Rat {
	return func(r ratio.Rat, e api.Errno) ratio.Rat {
		t.Helper()
		if e != api.OK {
			t.Fatalf("error %d", e)
		}
		return r
	}
}

// P1.4
func TestLaws(t *testing.T) {
	r := rand.New(rand.NewSource(7))
	ok := must(t)
	for k := range 1000 {
		x, _ := random(t, r, 1+k%400)
		y, _ := random(t, r, 1+k%300)
		z, _ := random(t, r, 1+k%200)
		equal := func(law string, a, b ratio.Rat) {
			t.Helper()
			if a.Cmp(b) != 0 || a.String() != b.String() || !reflect.DeepEqual(a, b) {
				t.Errorf("%s: %v and %v", law, a, b)
			}
		}
		equal("x + y = y + x", ok(x.Add(y)), ok(y.Add(x)))
		equal("x y = y x", ok(x.Mul(y)), ok(y.Mul(x)))
		equal("(x + y) + z = x + (y + z)", ok(ok(x.Add(y)).Add(z)), ok(x.Add(ok(y.Add(z)))))
		equal("(x y) z = x (y z)", ok(ok(x.Mul(y)).Mul(z)), ok(x.Mul(ok(y.Mul(z)))))
		equal("x (y + z) = x y + x z", ok(x.Mul(ok(y.Add(z)))), ok(ok(x.Mul(y)).Add(ok(x.Mul(z)))))
		equal("x - x = 0", ok(x.Sub(x)), ratio.Rat{})
		equal("x + -x = 0", ok(x.Add(x.Neg())), ratio.Rat{})
		equal("x 1 = x", ok(x.Mul(ratio.Of(1))), x)
		equal("num / den = x", ok(x.Num().Quo(x.Den())), x)
		if x.Sign() != 0 {
			equal("x / x = 1", ok(x.Quo(x)), ratio.Of(1))
			equal("y / x x = y", ok(ok(y.Quo(x)).Mul(x)), y)
			equal("x^-3 x^5 = x^2", ok(ok(x.Pow(-3)).Mul(ok(x.Pow(5)))), ok(x.Mul(x)))
		}
		if x.Cmp(y) != ok(x.Add(z)).Cmp(ok(y.Add(z))) || x.Cmp(y) != -y.Cmp(x) || x.Cmp(y) != ok(x.Sub(y)).Sign() {
			t.Errorf("order of %v and %v", x, y)
		}
		if z.Sign() > 0 && x.Cmp(y) != ok(x.Mul(z)).Cmp(ok(y.Mul(z))) {
			t.Errorf("order of multiples of %v and %v", x, y)
		}
		if f := x.Floor(); f.Cmp(x) > 0 || ok(f.Add(ratio.Of(1))).Cmp(x) <= 0 {
			t.Errorf("Floor of %v: %v", x, f)
		}
	}
}

// R4: a result is the same whatever is done with what it came from.
func TestValues(t *testing.T) {
	x := rat(t, "18446744073709551617/3")
	y := x
	n, d, m := x.Num(), x.Den(), x.Neg()
	if _, e := x.Add(y); e != api.OK {
		t.Error(e)
	}
	if _, e := x.Pow(5); e != api.OK {
		t.Error(e)
	}
	if x.String() != "18446744073709551617/3" || y.String() != x.String() || n.String() != "18446744073709551617" || d.String() != "3" || m.String() != "-"+x.String() {
		t.Errorf("%v, %v, %v, %v, %v", x, y, n, d, m)
	}
}
