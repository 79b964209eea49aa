package queue

import (
	"minikin/api"
	"minikin/ratio"
)

// settle returns what the calculation returns, or ErrSize if it panics because a fraction is not small.
func settle[T any](calculation func() T) (out T, e api.Errno) {
	e = api.ErrSize
	defer func() {
		_ = recover()
	}()
	return calculation(), api.OK
}

// must returns x, or panics if there is an error.
func must[T any](x T, e api.Errno) T {
	if e != api.OK {
		panic(e)
	}
	return x
}

// sum returns the sum of the fractions, or panics if it, or one on the way to it, is not small.
func sum(list ...ratio.Rat) ratio.Rat {
	total := ratio.Rat{}
	for _, r := range list {
		total = must(total.Add(r))
	}
	return total
}

// common returns the least common denominator of the fractions.
func common(list []ratio.Rat) ratio.Rat {
	out := ratio.Of(1)
	for _, r := range list {
		missing := must(out.Mul(r)).Den()
		out = must(out.Mul(missing))
	}
	return out
}

// scaled returns the fractions, each times the same one.
func scaled(list []ratio.Rat, by ratio.Rat) []ratio.Rat {
	out := make([]ratio.Rat, len(list))
	for i, r := range list {
		out[i] = must(r.Mul(by))
	}
	return out
}
