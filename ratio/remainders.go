package ratio

// remainders are the residues of several whole numbers: values[i] are those in the field i.
type remainders struct {
	fields []prime
	values [][]uint32
}

// add adds the residues in one more field, if there are any.
func (r *remainders) add(f prime, values []uint32) {
	if values != nil {
		r.fields = append(r.fields, f)
		r.values = append(r.values, values)
	}
}

// unite returns the only whole numbers with these residues of which the double is less than the product of all primes.
func (r remainders) unite() []Rat {
	r.weigh()
	product, sums := r.gather(0, len(r.fields))
	out := make([]Rat, len(sums))
	for i, sum := range sums {
		_, rest := sum.over(product)
		out[i] = whole(false, rest)
		if mirror := product.minus(rest); mirror.compare(rest) < 0 {
			out[i] = whole(true, mirror)
		}
	}
	return out
}

// weigh divides the residues in each field by the product of the other primes: the sum of all, each times the other primes, then has all the residues.
func (r remainders) weigh() {
	for i, f := range r.fields {
		weight := uint32(1)
		for j, g := range r.fields {
			if j != i {
				weight = f.Times(weight, uint32(g.p))
			}
		}
		weight = f.Over(1, weight)
		for k, v := range r.values[i] {
			r.values[i][k] = f.Times(v, weight)
		}
	}
}

// gather returns the product of the primes from one on to before another, and for each number the sum of its residues there, each times the other primes there.
func (r remainders) gather(from, to int) (natural, []natural) {
	if to-from == 1 {
		sums := make([]natural, len(r.values[from]))
		for k, v := range r.values[from] {
			sums[k] = naturalOf(uint64(v))
		}
		return naturalOf(r.fields[from].p), sums
	}
	middle := (from + to) / 2
	p, sums := r.gather(from, middle)
	q, others := r.gather(middle, to)
	for k := range sums {
		sums[k] = sums[k].times(q).plus(others[k].times(p))
	}
	return p.times(q), sums
}
