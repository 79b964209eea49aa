package ratio_test

import (
	"math/rand"
	"reflect"
	"strings"
	"testing"

	"minikin/api"
	"minikin/ratio"
)

// matrix returns the rows that are written in lines, as numbers between spaces.
func matrix(t *testing.T, lines ...string) [][]ratio.Rat {
	t.Helper()
	var out [][]ratio.Rat
	for _, line := range lines {
		out = append(out, rats(t, strings.Fields(line)...))
	}
	return out
}

// filled returns rows of the same fraction.
func filled(n, m int, r ratio.Rat) [][]ratio.Rat {
	out := make([][]ratio.Rat, n)
	for i := range out {
		out[i] = make([]ratio.Rat, m)
		for j := range out[i] {
			out[i][j] = r
		}
	}
	return out
}

func isSolution(t *testing.T, rows [][]ratio.Rat, b, x []ratio.Rat) bool {
	ok := must(t)
	for i, row := range rows {
		var sum ratio.Rat
		for j := range row {
			sum = ok(sum.Add(ok(row[j].Mul(x[j]))))
		}
		if sum.Cmp(b[i]) != 0 {
			return false
		}
	}
	return true
}

// isDenial checks a denial of small fractions by its definition.
func isDenial(t *testing.T, rows [][]ratio.Rat, b, w []ratio.Rat) bool {
	if len(w) != len(rows) {
		return false
	}
	columns := make([][]ratio.Rat, 0)
	for j := range rows[0] {
		var column []ratio.Rat
		for i := range rows {
			column = append(column, rows[i][j])
		}
		columns = append(columns, column)
	}
	due := make([]ratio.Rat, len(columns)+1)
	due[len(columns)] = ratio.Of(1)
	return isSolution(t, append(columns, b), due, w)
}

// P1.3: the errors, in their order, of all calls.
func TestSystemErrors(t *testing.T) {
	var zero ratio.Rat
	most, over := rat(t, strings.Repeat("9", 60)), rat(t, "1"+strings.Repeat("0", 60))
	ragged := [][]ratio.Rat{make([]ratio.Rat, 2), make([]ratio.Rat, 3)}
	for _, c := range []struct {
		name    string
		rows    [][]ratio.Rat
		b       []ratio.Rat
		e, rank api.Errno // rank: what Rank returns
	}{
		{"no rows", nil, nil, api.OK, api.OK},
		{"40 rows and columns", filled(40, 40, zero), make([]ratio.Rat, 40), api.OK, api.OK},
		{"41 rows", filled(41, 40, zero), make([]ratio.Rat, 41), api.ErrLong, api.ErrLong},
		{"41 columns", filled(40, 41, zero), make([]ratio.Rat, 40), api.ErrLong, api.ErrLong},
		{"41 columns in a later row", [][]ratio.Rat{make([]ratio.Rat, 40), make([]ratio.Rat, 41)}, make([]ratio.Rat, 2), api.ErrShape, api.ErrShape},
		{"41 rows, ragged, of great numbers", append(ragged, filled(39, 1, over)...), nil, api.ErrLong, api.ErrLong},
		{"41 columns, too short b", filled(1, 41, over), nil, api.ErrLong, api.ErrLong},
		{"ragged", ragged, make([]ratio.Rat, 2), api.ErrShape, api.ErrShape},
		{"ragged, great", append(filled(1, 1, over), ragged...), make([]ratio.Rat, 3), api.ErrShape, api.ErrShape},
		{"a row without fractions", [][]ratio.Rat{{zero}, {}}, make([]ratio.Rat, 2), api.ErrShape, api.ErrShape},
		{"b too short", filled(2, 2, zero), make([]ratio.Rat, 1), api.ErrShape, api.OK},
		{"b too long", filled(2, 2, zero), make([]ratio.Rat, 3), api.ErrShape, api.OK},
		{"b too long, great numbers", filled(2, 2, over), make([]ratio.Rat, 3), api.ErrShape, api.ErrSize},
		{"b without rows", nil, make([]ratio.Rat, 1), api.ErrShape, api.OK},
		{"60 digits", filled(1, 1, most), []ratio.Rat{most}, api.OK, api.OK},
		{"60 digits below", filled(1, 1, must(t)(most.Pow(-1))), []ratio.Rat{most.Neg()}, api.OK, api.OK},
		{"61 digits", filled(1, 1, over), []ratio.Rat{zero}, api.ErrSize, api.ErrSize},
		{"61 digits below", filled(1, 1, must(t)(over.Pow(-1))), []ratio.Rat{zero}, api.ErrSize, api.ErrSize},
		{"61 digits, negative, last", [][]ratio.Rat{{zero, zero}, {zero, over.Neg()}}, make([]ratio.Rat, 2), api.ErrSize, api.ErrSize},
		{"61 digits in b", filled(1, 1, zero), []ratio.Rat{over}, api.ErrSize, api.OK},
		{"61 digits below in b", filled(1, 1, zero), []ratio.Rat{must(t)(over.Pow(-1))}, api.ErrSize, api.OK},
	} {
		if e := ratio.Check(c.rows, c.b); e != c.e {
			t.Errorf("%s: Check: %d, not %d", c.name, e, c.e)
		}
		if n, e := ratio.Rank(c.rows); e != c.rank || e != api.OK && n != 0 {
			t.Errorf("%s: Rank: %d, %d, not %d", c.name, n, e, c.rank)
		}
		if c.e == api.OK {
			continue
		}
		if x, e := ratio.Solve(c.rows, c.b); e != c.e || len(x) != 0 {
			t.Errorf("%s: Solve: %v, %d, not %d", c.name, x, e, c.e)
		}
		if w, ok := ratio.Deny(c.rows, c.b); ok || len(w) != 0 {
			t.Errorf("%s: Deny: %v, %v", c.name, w, ok)
		}
		if ratio.Denies(c.rows, c.b, make([]ratio.Rat, len(c.rows))) {
			t.Errorf("%s: Denies", c.name)
		}
	}
}

// P1.3: systems with no, one and many solutions.
func TestSolve(t *testing.T) {
	for _, c := range []struct {
		rows []string
		b, x string
		e    api.Errno
		rank int
	}{
		{nil, "", "", api.OK, 0},
		{[]string{""}, "0", "", api.OK, 0}, {[]string{"", ""}, "0 0", "", api.OK, 0}, {[]string{"", ""}, "0 -3", "", api.ErrNone, 0},
		{[]string{"2"}, "3", "3/2", api.OK, 1}, {[]string{"0"}, "0", "", api.ErrMany, 0}, {[]string{"0"}, "1/7", "", api.ErrNone, 0}, {[]string{"-1/3"}, "0", "0", api.OK, 1},
		{[]string{"1 2", "2 4"}, "1 3", "", api.ErrNone, 1}, {[]string{"1 2", "2 4"}, "1 2", "", api.ErrMany, 1}, {[]string{"1 2", "3 4"}, "5 6", "-4 9/2", api.OK, 2},
		{[]string{"0 1", "1 0"}, "7 -8", "-8 7", api.OK, 2}, {[]string{"0 0", "0 0"}, "0 0", "", api.ErrMany, 0}, {[]string{"0 0", "0 0"}, "0 1", "", api.ErrNone, 0},
		{[]string{"1 2", "3 4", "4 6"}, "5 6 11", "-4 9/2", api.OK, 2}, {[]string{"1 2", "3 4", "4 6"}, "5 6 12", "", api.ErrNone, 2}, {[]string{"1", "2", "3"}, "1 2 3", "1", api.OK, 1}, {[]string{"0", "0", "3"}, "0 0 1", "1/3", api.OK, 1},
		{[]string{"1 2 3"}, "4", "", api.ErrMany, 1}, {[]string{"1 2 3", "2 4 6"}, "4 9", "", api.ErrNone, 1}, {[]string{"1 2 3", "0 0 1"}, "4 9", "", api.ErrMany, 2},
		{[]string{"1/2 1/3 1/4", "1/3 1/4 1/5", "1/4 1/5 1/6"}, "1 1 1", "12 -60 60", api.OK, 3}, {[]string{"1/7 2/7", "2/9 4/9"}, "1 14/9", "", api.ErrMany, 1}, {[]string{"1/7 2/7", "2/9 4/9"}, "1 13/9", "", api.ErrNone, 1},
		{[]string{"2147483647 0", "0 2147483629"}, "1 1", "1/2147483647 1/2147483629", api.OK, 2}, {[]string{"1/2147483647 1", "1 1/2147483629"}, "0 0", "0 0", api.OK, 2},
		{[]string{"1 0 0 0", "0 0 1 0", "0 0 0 1"}, "1 2 3", "", api.ErrMany, 3}, {[]string{"0 0 0", "0 1 0"}, "1 1", "", api.ErrNone, 1},
	} {
		rows, b := matrix(t, c.rows...), rats(t, strings.Fields(c.b)...)
		x, e := ratio.Solve(rows, b)
		if e != c.e || len(x) != len(strings.Fields(c.x)) {
			t.Errorf("Solve %v = %v: %v, %d", rows, b, x, e)
			continue
		}
		for i, due := range strings.Fields(c.x) {
			if x[i].String() != due {
				t.Errorf("Solve %v = %v: %v", rows, b, x)
			}
		}
		if n, e := ratio.Rank(rows); n != c.rank || e != api.OK {
			t.Errorf("Rank %v: %d, %d", rows, n, e)
		}
		w, ok := ratio.Deny(rows, b)
		if ok != (c.e == api.ErrNone) || !ok && len(w) != 0 || ok && !(ratio.Denies(rows, b, w) && isDenial(t, rows, b, w)) {
			t.Errorf("Deny %v = %v: %v, %v", rows, b, w, ok)
		}
	}
}

// P1.3
func TestDenies(t *testing.T) {
	rows, b := matrix(t, "1 2", "2 4"), rats(t, "1", "3")
	for _, c := range []struct {
		w  string
		is bool
	}{
		{"-2 1", true}, {"2 -1", false}, {"-4 2", false}, {"-1 1/2", false}, {"0 0", false}, {"1 1", false}, {"-2", false}, {"-2 1 0", false}, {"", false}, {"-2 2", false},
	} {
		if is := ratio.Denies(rows, b, rats(t, strings.Fields(c.w)...)); is != c.is {
			t.Errorf("Denies %s: %v", c.w, is)
		}
	}
	for _, c := range []struct {
		rows  []string
		b, w  string
		is    bool
		about string
	}{
		{[]string{"", ""}, "1 0", "1 5", true, "no columns"}, {[]string{"", ""}, "1 0", "2 5", false, "no columns, another sum"}, {nil, "", "", false, "no rows"}, {nil, "", "1", false, "no rows, one fraction"},
		{[]string{"0 0", "0 1"}, "1/3 5", "3 0", true, "a row of 0"}, {[]string{"0 0", "0 1"}, "1/3 5", "3 1", false, "another column"}, {[]string{"1 0", "0 1", "1/2 1/3"}, "0 0 1", "-1/2 -1/3 1", true, "three rows"}, {[]string{"1 0", "0 1", "1/2 1/3"}, "0 0 1", "-1/2 1/3 1", false, "the last column is not 0"},
		{[]string{"1", "-1"}, "1/2 1/3", "6/5 6/5", true, "a fraction"}, {[]string{"1", "1"}, "1 1", "1 -1", false, "a solution"}, {[]string{"1", "1"}, "2 1", "-1 1", false, "-1"},
	} {
		if is := ratio.Denies(matrix(t, c.rows...), rats(t, strings.Fields(c.b)...), rats(t, strings.Fields(c.w)...)); is != c.is {
			t.Errorf("%s: %v", c.about, is)
		}
	}
	great := rat(t, two(api.MaxBits, -1)+"/"+two(api.MaxBits, -2))
	if !ratio.Denies(matrix(t, "0", "1", "-1"), rats(t, "1", "2", "-2"), []ratio.Rat{ratio.Of(1), great, great}) {
		t.Error("great fractions")
	}
	if ratio.Denies(matrix(t, "0", "1", "-1"), rats(t, "1", "2", "-2"), []ratio.Rat{ratio.Of(1), great, must(t)(great.Pow(-1))}) {
		t.Error("great fractions, one another")
	}
}

// sample returns a system whose rows often depend on each other, with or without a solution.
func sample(r *rand.Rand) ([][]ratio.Rat, []ratio.Rat) {
	n, m := 1+r.Intn(6), r.Intn(6)
	rows, b := filled(n, m, ratio.Rat{}), make([]ratio.Rat, n)
	one := func() ratio.Rat {
		x, _ := ratio.Make(int64(r.Intn(9)-4), int64(1+r.Intn(4)))
		return x
	}
	for i := range rows {
		for j := range rows[i] {
			rows[i][j] = one()
		}
		b[i] = one()
		if i < 2 || r.Intn(3) == 0 {
			continue
		}
		f, g := one(), one()
		mix := func(x, y ratio.Rat) ratio.Rat {
			x, _ = x.Mul(f)
			y, _ = y.Mul(g)
			x, _ = x.Add(y)
			return x
		}
		for j := range rows[i] {
			rows[i][j] = mix(rows[0][j], rows[i-1][j])
		}
		if r.Intn(3) > 0 {
			b[i] = mix(b[0], b[i-1])
		}
	}
	return rows, b
}

// P1.5
func TestEitherOr(t *testing.T) {
	r := rand.New(rand.NewSource(8))
	seen := map[api.Errno]int{}
	for range 4000 {
		rows, b := sample(r)
		x, e := ratio.Solve(rows, b)
		seen[e]++
		w, denied := ratio.Deny(rows, b)
		n, _ := ratio.Rank(rows)
		joint := make([][]ratio.Rat, len(rows))
		for i, row := range rows {
			joint[i] = append(append(joint[i], row...), b[i])
		}
		m, _ := ratio.Rank(joint)
		switch {
		case denied != (e == api.ErrNone) || denied != (m > n):
			t.Fatalf("%v = %v: %d, %v, ranks %d and %d", rows, b, e, denied, n, m)
		case denied && !(isDenial(t, rows, b, w) && ratio.Denies(rows, b, w)):
			t.Fatalf("%v = %v: denial %v", rows, b, w)
		case !denied && (e == api.OK) != (n == len(rows[0])):
			t.Fatalf("%v = %v: %d, rank %d", rows, b, e, n)
		case e == api.OK && !(len(x) == len(rows[0]) && isSolution(t, rows, b, x)):
			t.Fatalf("%v = %v: %v", rows, b, x)
		}
	}
	if seen[api.OK] < 100 || seen[api.ErrNone] < 100 || seen[api.ErrMany] < 100 || len(seen) != 3 {
		t.Errorf("%v", seen)
	}
}

// great returns n rows and a list b of fractions with numerators and denominators of 60 digits.
func great(t *testing.T, r *rand.Rand, n, m int) ([][]ratio.Rat, []ratio.Rat) {
	rows, b := filled(n, m, ratio.Rat{}), make([]ratio.Rat, n)
	digits := func() string {
		s := []byte{byte('1' + r.Intn(9))}
		for len(s) < 60 {
			s = append(s, byte('0'+r.Intn(10)))
		}
		return string(s)
	}
	one := func() ratio.Rat { return must(t)(rat(t, digits()).Quo(rat(t, digits()))) }
	for i := range rows {
		for j := range rows[i] {
			rows[i][j] = one()
		}
		b[i] = one()
	}
	return rows, b
}

// P1.3: a solution whose fractions are small, one whose fractions are not, and a denial of fractions that are not small, in systems of numbers of the greatest size.
func TestGreatSystems(t *testing.T) {
	r := rand.New(rand.NewSource(9))
	rows, b := great(t, r, 9, 9)
	x, e := ratio.Solve(rows, b)
	if e != api.OK || !isSolution(t, rows, b, x) {
		t.Errorf("Solve: %d", e)
	}
	rows, b = great(t, r, 24, 24)
	if x, e := ratio.Solve(rows, b); e != api.ErrSize || len(x) != 0 {
		t.Errorf("Solve: %d", e)
	}
	for i := range rows {
		rows[i] = rows[i][:23]
	}
	w, ok := ratio.Deny(rows, b)
	if !ok || !ratio.Denies(rows, b, w) {
		t.Fatalf("Deny: %v", ok)
	}
	if len(w[0].Den().String()) < 30103 {
		t.Error("a denial of small fractions")
	}
	if _, e := w[0].Add(ratio.Of(1)); e != api.ErrSize {
		t.Errorf("Add: %d", e)
	}
	if d, e := w[0].Sub(w[0]); e != api.OK || d.Sign() != 0 || w[0].Cmp(w[0]) != 0 || w[0].Neg().Cmp(w[0]) != -w[0].Sign() {
		t.Error("Sub or Cmp of a fraction that is not small")
	}
	w[0], w[1] = w[1], w[0]
	if ratio.Denies(rows, b, w) {
		t.Error("Denies")
	}
}

// P1.3: 40 rows of great numbers, of which one depends on the others only.
func TestWidestSystem(t *testing.T) {
	rows, b := filled(40, 40, ratio.Rat{}), make([]ratio.Rat, 40)
	p := rat(t, strings.Repeat("9", 59)+"7")
	for i := range rows {
		rows[i][i], b[i] = p, ratio.Of(int64(i))
		rows[i][(i+1)%40] = ratio.Of(-1)
	}
	rows[39] = append([]ratio.Rat(nil), rows[38]...)
	if n, e := ratio.Rank(rows); n != 39 || e != api.OK {
		t.Errorf("Rank: %d, %d", n, e)
	}
	if _, e := ratio.Solve(rows, b); e != api.ErrNone {
		t.Errorf("Solve: %d", e)
	}
	if w, ok := ratio.Deny(rows, b); !ok || !ratio.Denies(rows, b, w) {
		t.Errorf("Deny: %v", ok)
	}
	b[39] = b[38]
	if _, e := ratio.Solve(rows, b); e != api.ErrMany {
		t.Errorf("Solve: %d", e)
	}
	if _, ok := ratio.Deny(rows, b); ok {
		t.Error("Deny")
	}
}

// R4: arguments are neither changed nor kept, and what lies beyond their length is not touched.
func TestArguments(t *testing.T) {
	full := matrix(t, "1 2 77", "2 4 77", "77 77 77")
	b := rats(t, "1", "3", "77")
	before := matrix(t, "1 2 77", "2 4 77", "77 77 77")
	rows := [][]ratio.Rat{full[0][:2], full[1][:2], full[2]}[:2]
	w, ok := ratio.Deny(rows, b[:2])
	_, e := ratio.Solve(rows, b[:2])
	n, _ := ratio.Rank(rows)
	if !ok || e != api.ErrNone || n != 1 || !ratio.Denies(rows, b[:2], w) || ratio.Check(rows, b[:2]) != api.OK {
		t.Errorf("%v, %d, %d", ok, e, n)
	}
	if !reflect.DeepEqual(full, before) || b[2].String() != "77" || len(rows[:3][2]) != 3 {
		t.Errorf("%v, %v", full, b)
	}
	x, _ := ratio.Solve(matrix(t, "1 0", "0 1"), b[:2])
	x[0] = ratio.Of(5)
	if b[0].String() != "1" {
		t.Error("the solution is b's memory")
	}
}
