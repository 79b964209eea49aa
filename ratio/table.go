package ratio

// table is rows of fractions of the same length. Elimination is done modulo primes, where numbers do not grow; that is exact, because as many primes are used as the greatest possible determinant needs.
type table struct {
	rows   [][]Rat
	common natural // the product of the least common denominators of the rows
	size   int     // bits: no determinant of rows and columns of the table, with each row times its common denominator, has more
}

// termBits is a number of bits in which the number of fractions of a row fits.
const termBits = 6

func tableOf(rows [][]Rat) table {
	t := table{rows: rows, common: natural{1}}
	for _, row := range rows {
		common := natural{1}
		for _, r := range row {
			if r.den != nil {
				common = commonMultiple(common, r.den)
			}
		}
		t.common = t.common.times(common)
		t.size += sumBits(row, common)
	}
	return t
}

// sumBits returns a number of bits in which the sum of the absolute values of the row times its common denominator fits.
func sumBits(row []Rat, common natural) int {
	most := 0
	for _, r := range row {
		if r.num != nil {
			most = max(most, r.num.bits()+common.bits()-r.below().bits()+1)
		}
	}
	return most + termBits
}

// modulo returns the residues of the rows, or false if p divides a denominator.
func (t table) modulo(f prime) ([][]uint32, bool) {
	if f.residue(t.common) == 0 {
		return nil, false
	}
	out := make([][]uint32, len(t.rows))
	for i, row := range t.rows {
		out[i] = f.residues(row)
	}
	return out, true
}

// survey tells how far the rows of a table, whose last column is b, are independent.
type survey struct {
	rank, joint   int   // how many rows at most are: without b, with b
	rows, columns []int // joint ones of them; if b is needed it is the last column
}

// explore surveys a table. A prime that divides a determinant may hide it, but primes whose product is greater than all determinants cannot all do so.
func (t table) explore() survey {
	var best survey
	if len(t.rows) == 0 {
		return best
	}
	width := len(t.rows[0])
	mostRank, mostJoint := min(len(t.rows), width-1), min(len(t.rows), width)
	left := t.size
	for f := range primes() {
		rows, ok := t.modulo(f)
		if !ok {
			continue
		}
		if s := surveyOf(eliminate(f, rows), width); s.beats(best) {
			best = s
		}
		left -= primeBits
		if left <= 0 || best.rank == mostRank && best.joint == mostJoint {
			break
		}
	}
	return best
}

func surveyOf(m echelon[uint32], width int) survey {
	n := len(m.columns)
	s := survey{rank: n, joint: n, rows: m.origin[:n], columns: m.columns}
	if n > 0 && m.columns[n-1] == width-1 {
		s.rank--
	}
	return s
}

func (s survey) beats(t survey) bool {
	return s.rank > t.rank || s.rank == t.rank && s.joint > t.joint
}

// solve returns the solution of the table, whose last column is b, if its other columns are a square matrix with a determinant that is not 0; finish gets each fraction as soon as it is known. (Cramer: the solution is quotients of determinants.)
func (t table) solve(finish func(Rat) Rat) []Rat {
	n := len(t.rows)
	if n == 0 {
		return nil
	}
	var r remainders
	for f := range primes() {
		if rows, ok := t.modulo(f); ok {
			r.add(f, t.determinants(f, eliminate(f, rows)))
		}
		// One bit more is for the sign.
		if primeBits*len(r.fields) > t.size {
			break
		}
	}
	dets := r.unite()
	out := make([]Rat, n)
	for i := range out {
		out[i] = finish(lowest(dets[i].negative != dets[n].negative, dets[i].num, dets[n].num))
	}
	return out
}

// determinants returns the residues of those whose quotients are the solution, and at last that by which they are divided; nil if p divides it.
func (t table) determinants(f prime, m echelon[uint32]) []uint32 {
	n := len(t.rows)
	if len(m.columns) < n || m.columns[n-1] >= n {
		return nil
	}
	below := f.Times(m.determinant(f), f.residue(t.common))
	out := m.solution(f)
	for i, x := range out {
		out[i] = f.Times(x, below)
	}
	return append(out, below)
}
