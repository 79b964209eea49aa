package ratio

// long is the number of words from which on halving the factors saves time.
const long = 40

func (x natural) times(y natural) natural {
	if len(x) < len(y) {
		x, y = y, x
	}
	half := (len(x) + 1) / 2
	switch {
	case len(y) < long:
		return timesShort(x, y)
	case len(y) <= half:
		return timesPieces(x, y)
	}
	return timesHalves(x, y, half)
}

func timesShort(x, y natural) natural {
	out := make([]uint32, len(x)+len(y))
	for i, w := range y {
		var carry uint64
		for j, v := range x {
			carry += uint64(w)*uint64(v) + uint64(out[i+j])
			out[i+j] = uint32(carry)
			carry >>= 32
		}
		out[i+len(x)] = uint32(carry)
	}
	return trim(out)
}

// timesPieces cuts x, the much longer factor, into pieces as long as y.
func timesPieces(x, y natural) natural {
	out := make([]uint32, len(x)+len(y))
	for at := 0; at < len(x); at += len(y) {
		piece := trim(x[at:min(at+len(y), len(x))])
		addAt(out, piece.times(y), at)
	}
	return trim(out)
}

// timesHalves needs three products of halves instead of four, because the sum of the mixed ones is a difference (Karatsuba). Both factors must have more than half words.
func timesHalves(x, y natural, half int) natural {
	x0, x1 := trim(x[:half]), trim(x[half:])
	y0, y1 := trim(y[:half]), trim(y[half:])
	low, high := x0.times(y0), x1.times(y1)
	mixed := x0.plus(x1).times(y0.plus(y1)).minus(low).minus(high)
	out := make([]uint32, len(x)+len(y))
	copy(out, low)
	copy(out[2*half:], high)
	addAt(out, mixed, half)
	return trim(out)
}

// power returns x to the power of n, from 0 on.
func (x natural) power(n int) natural {
	out := natural{1}
	for ; n > 0; n >>= 1 {
		if n&1 == 1 {
			out = out.times(x)
		}
		if n > 1 {
			x = x.times(x)
		}
	}
	return out
}
