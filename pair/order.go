package pair

import (
	"iter"
	"slices"

	"minikin/api"
	"minikin/small"
)

// Limits of orders.
const (
	mostThings = 40
	mostBefore = 400
)

// order is an order by the things that come after each thing.
type order struct {
	things int
	after  [mostThings]small.Set
}

// arrange returns the order of n things by the pairs of before and what follows from them, or ErrOrder if they make no order.
func arrange(n int, before [][2]int) (*order, api.Errno) {
	if n < 1 || n > mostThings || len(before) > mostBefore {
		return nil, api.ErrOrder
	}
	o := &order{things: n}
	for _, x := range before {
		if min(x[0], x[1]) < 0 || max(x[0], x[1]) >= n {
			return nil, api.ErrOrder
		}
		o.after[x[0]] |= small.One(x[1])
	}
	o.close()
	for a := range n {
		if o.after[a].Has(a) {
			return nil, api.ErrOrder
		}
	}
	return o, api.OK
}

// pairs walks over the pairs of o, first those of which thing 0 is the first one.
func (o *order) pairs() iter.Seq2[int, int] {
	return func(yield func(a, b int) bool) {
		for a := range o.things {
			for b := range o.after[a].All() {
				if !yield(a, b) {
					return
				}
			}
		}
	}
}

// close adds all pairs that follow by taking several.
func (o *order) close() {
	for between := range o.things {
		for a, b := range o.pairs() {
			if b == between {
				o.after[a] |= o.after[between]
			}
		}
	}
}

// reverse returns the order in which the later things come before the earlier ones.
func (o *order) reverse() *order {
	out := &order{things: o.things}
	for a, b := range o.pairs() {
		out.after[b] |= small.One(a)
	}
	return out
}

// heights returns for each thing the number of things of a longest chain that begins with it, less 1.
func (o *order) heights() []int {
	out := make([]int, o.things)
	left := small.Below(o.things)
	for height := 0; left != 0; height++ {
		above := left
		for a := range above.All() {
			if o.after[a]&above == 0 {
				out[a] = height
				left &^= small.One(a)
			}
		}
	}
	return out
}

// CheckOrder returns ErrOrder if n and before are no order.
func CheckOrder(n int, before [][2]int) api.Errno {
	_, e := arrange(n, before)
	return e
}

// Levels returns for each thing the number of things of a longest chain that ends with it, less 1.
func Levels(n int, before [][2]int) ([]int, api.Errno) {
	o, e := arrange(n, before)
	if e != api.OK {
		return nil, e
	}
	return o.reverse().heights(), api.OK
}

// Longest returns the first longest chain.
func Longest(n int, before [][2]int) ([]int, api.Errno) {
	o, e := arrange(n, before)
	if e != api.OK {
		return nil, e
	}
	var chain []int
	heights := o.heights()
	next := small.Below(n)
	for height := slices.Max(heights); height >= 0; height-- {
		for a := range next.All() {
			if heights[a] == height {
				chain = append(chain, a)
				next = o.after[a]
				break
			}
		}
	}
	return chain, api.OK
}
