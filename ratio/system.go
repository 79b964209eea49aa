package ratio

import "minikin/api"

// maxDigits is the greatest number of digits of a numerator or a denominator in a system.
const maxDigits = 60

// Check says whether rows and b are a system.
func Check(rows [][]Rat, b []Rat) api.Errno {
	if e := checkShape(rows); e != api.OK {
		return e
	}
	if len(b) != len(rows) {
		return api.ErrShape
	}
	return checkSizes(append(rows[:len(rows):len(rows)], b))
}

func checkShape(rows [][]Rat) api.Errno {
	if len(rows) > api.MaxRows || len(rows) > 0 && len(rows[0]) > api.MaxRows {
		return api.ErrLong
	}
	for _, row := range rows {
		if len(row) != len(rows[0]) {
			return api.ErrShape
		}
	}
	return api.OK
}

func checkSizes(rows [][]Rat) api.Errno {
	limit := natural{10}.power(maxDigits)
	for _, row := range rows {
		for _, r := range row {
			if r.num.compare(limit) >= 0 || r.den.compare(limit) >= 0 {
				return api.ErrSize
			}
		}
	}
	return api.OK
}

// Solve returns the solution, if there is just one.
func Solve(rows [][]Rat, b []Rat) ([]Rat, api.Errno) {
	if e := Check(rows, b); e != api.OK {
		return nil, e
	}
	t := systemTable(rows, b)
	s := t.explore()
	switch {
	case s.joint > s.rank:
		return nil, api.ErrNone
	case s.rank < width(rows):
		return nil, api.ErrMany
	}
	var square [][]Rat
	for _, i := range s.rows {
		square = append(square, t.rows[i])
	}
	return yield(func() []Rat { return tableOf(square).solve(small) })
}

// Rank returns how many rows at most are independent.
func Rank(rows [][]Rat) (int, api.Errno) {
	if e := checkShape(rows); e != api.OK {
		return 0, e
	}
	if e := checkSizes(rows); e != api.OK {
		return 0, e
	}
	s := systemTable(rows, make([]Rat, len(rows))).explore()
	return s.rank, api.OK
}

// Deny returns a denial, if there is no solution.
func Deny(rows [][]Rat, b []Rat) ([]Rat, bool) {
	if Check(rows, b) != api.OK {
		return nil, false
	}
	t := systemTable(rows, b)
	s := t.explore()
	if s.joint == s.rank {
		return nil, false
	}
	out := make([]Rat, len(rows))
	for k, w := range t.conditions(s).solve(anySize) {
		out[s.rows[k]] = w
	}
	return out, true
}

// conditions returns what a denial has to satisfy if only the independent rows take part: the other columns depend on those of s.
func (t table) conditions(s survey) table {
	var out [][]Rat
	for k, j := range s.columns {
		var row []Rat
		for _, i := range s.rows {
			row = append(row, t.rows[i][j])
		}
		right := Rat{}
		if k == len(s.columns)-1 {
			right = Of(1)
		}
		out = append(out, append(row, right))
	}
	return tableOf(out)
}

// Denies reports whether rows and b are a system and w is a denial.
func Denies(rows [][]Rat, b, w []Rat) bool {
	if Check(rows, b) != api.OK || len(w) != len(rows) {
		return false
	}
	factors, common := wholes(w)
	t := systemTable(rows, b)
	for j := range width(rows) + 1 {
		var column []Rat
		for i := range rows {
			column = append(column, t.rows[i][j])
		}
		sum, den := sumOfProducts(factors, column)
		due := natural(nil)
		if j == width(rows) {
			due = common.times(den)
		}
		if sum.negative || sum.num.compare(due) != 0 {
			return false
		}
	}
	return true
}

// wholes returns fractions as whole numbers, all divided by one denominator.
func wholes(list []Rat) ([]Rat, natural) {
	common := natural{1}
	for _, r := range list {
		common = commonMultiple(common, r.below())
	}
	out := make([]Rat, len(list))
	for i, r := range list {
		out[i] = whole(r.negative, r.num.times(quotient(common, r.below())))
	}
	return out, common
}

// sumOfProducts returns the sum of the products of whole numbers and fractions, as a whole number and what it is divided by. It is taken by halves, so that the great factors meet small ones only.
func sumOfProducts(factors, list []Rat) (Rat, natural) {
	switch n := len(list); n {
	case 0:
		return Rat{}, natural{1}
	case 1:
		return multiply(factors[0], list[0].Num()), list[0].below()
	default:
		a, p := sumOfProducts(factors[:n/2], list[:n/2])
		b, q := sumOfProducts(factors[n/2:], list[n/2:])
		return addWhole(multiply(a, whole(false, q)), multiply(b, whole(false, p))), p.times(q)
	}
}

// systemTable returns the rows with b as their last column.
func systemTable(rows [][]Rat, b []Rat) table {
	out := make([][]Rat, len(rows))
	for i, row := range rows {
		out[i] = append(row[:len(row):len(row)], b[i])
	}
	return tableOf(out)
}

// width returns the number of columns.
func width(rows [][]Rat) int {
	if len(rows) == 0 {
		return 0
	}
	return len(rows[0])
}

func anySize(r Rat) Rat {
	return r
}
