package ratio

// field is what elimination needs: a difference, a product and a quotient, and to know 0.
type field[T any] interface {
	Minus(a, b T) T
	Times(a, b T) T
	Over(a, b T) T
	IsZero(a T) bool
}

// echelon is a matrix in which the row i is 0 before the column columns[i], these columns are rising, and all rows without one are 0.
type echelon[T any] struct {
	rows    [][]T
	columns []int
	origin  []int // which row of the matrix stood, before exchanges, where a row is now
	odd     bool  // whether the number of exchanges is odd
}

// eliminate brings rows of the same length, at least one, into echelon form. It writes into rows.
func eliminate[T any](f field[T], rows [][]T) echelon[T] {
	m := echelon[T]{rows: rows}
	for i := range rows {
		m.origin = append(m.origin, i)
	}
	for column := range rows[0] {
		if m.choose(f, column) {
			m.clear(f, column)
		}
	}
	return m
}

// choose makes a row that is not 0 in the column the next one, if there is one.
func (m *echelon[T]) choose(f field[T], column int) bool {
	next := len(m.columns)
	for i := next; i < len(m.rows); i++ {
		if f.IsZero(m.rows[i][column]) {
			continue
		}
		if i > next {
			m.rows[i], m.rows[next] = m.rows[next], m.rows[i]
			m.origin[i], m.origin[next] = m.origin[next], m.origin[i]
			m.odd = !m.odd
		}
		m.columns = append(m.columns, column)
		return true
	}
	return false
}

// clear takes multiples of the row that was chosen last from the rows below, so that they become 0 in its column.
func (m *echelon[T]) clear(f field[T], column int) {
	last := len(m.columns) - 1
	chosen := m.rows[last]
	pivot := chosen[column]
	inverse := f.Over(f.Over(pivot, pivot), pivot)
	for _, row := range m.rows[last+1:] {
		if f.IsZero(row[column]) {
			continue
		}
		factor := f.Times(row[column], inverse)
		for j := column; j < len(row); j++ {
			row[j] = f.Minus(row[j], f.Times(factor, chosen[j]))
		}
	}
}

// determinant returns the determinant of the columns but the last one, of a matrix with a pivot in each of them.
func (m echelon[T]) determinant(f field[T]) T {
	out := m.rows[0][0]
	for i := 1; i < len(m.rows); i++ {
		out = f.Times(out, m.rows[i][i])
	}
	if m.odd {
		zero := f.Minus(out, out)
		return f.Minus(zero, out)
	}
	return out
}

// solution returns what the columns but the last one have to be multiplied with, to sum up to the last one, of a matrix with a pivot in each of them.
func (m echelon[T]) solution(f field[T]) []T {
	n := len(m.rows)
	out := make([]T, n)
	for i := n - 1; i >= 0; i-- {
		x := m.rows[i][n]
		for j := i + 1; j < n; j++ {
			x = f.Minus(x, f.Times(m.rows[i][j], out[j]))
		}
		out[i] = f.Over(x, m.rows[i][i])
	}
	return out
}
