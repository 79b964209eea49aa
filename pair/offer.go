package pair

import (
	"math"

	"minikin/api"
	"minikin/small"
)

// Limits of offers and prices.
const (
	mostRows  = 12
	mostWorth = 1_000_000
	mostPrice = 1_000_000_000_000_000
)

// checkOffer returns ErrShape if offer is not square or has too many rows or none, ErrArg if a number is out of its range.
func checkOffer(offer [][]int64) api.Errno {
	if len(offer) < 1 || len(offer) > mostRows {
		return api.ErrShape
	}
	for _, row := range offer {
		if len(row) != len(offer) {
			return api.ErrShape
		}
	}
	for _, row := range offer {
		if !areWithin(row, mostWorth) {
			return api.ErrArg
		}
	}
	return api.OK
}

// areWithin reports whether all numbers of list are from -most to most.
func areWithin(list []int64, most int64) bool {
	for _, x := range list {
		if x < -most || x > most {
			return false
		}
	}
	return true
}

// Assign returns the first assignment of those that are worth most, and what it is worth.
func Assign(offer [][]int64) (posts []int, worth int64, e api.Errno) {
	if e := checkOffer(offer); e != api.OK {
		return nil, 0, e
	}
	best := remains(offer)
	taken := small.Set(0)
	for _, row := range offer {
		for post, x := range row {
			if !taken.Has(post) && x+best[taken|small.One(post)] == best[taken] {
				posts = append(posts, post)
				taken |= small.One(post)
				break
			}
		}
	}
	return posts, best[0], api.OK
}

// remains returns, for each set of posts that the first persons have taken, the most that the others are worth at the other posts.
func remains(offer [][]int64) []int64 {
	best := make([]int64, 1<<len(offer))
	for taken := small.Below(len(offer)); taken > 0; {
		taken--
		best[taken] = math.MinInt64
		for post, x := range offer[taken.Size()] {
			if !taken.Has(post) {
				best[taken] = max(best[taken], x+best[taken|small.One(post)])
			}
		}
	}
	return best
}

// Prices returns prices for what the best assignments are worth.
func Prices(offer [][]int64) (u, v []int64, e api.Errno) {
	posts, _, e := Assign(offer)
	if e != api.OK {
		return nil, nil, e
	}
	u, v = make([]int64, len(offer)), make([]int64, len(offer))
	// A post costs at least what a person would gain by it, and the price of the person's own post. No circle of such gains is above 0, since no assignment is worth more: a round for each post lets all prices come to rest.
	for range offer {
		for i, row := range offer {
			for post, x := range row {
				v[post] = max(v[post], v[posts[i]]+x-row[posts[i]])
			}
		}
	}
	for i, row := range offer {
		u[i] = row[posts[i]] - v[posts[i]]
	}
	return u, v, api.OK
}

// ArePrices reports whether u and v are prices for worth.
func ArePrices(offer [][]int64, u, v []int64, worth int64) bool {
	if checkOffer(offer) != api.OK || len(u) != len(offer) || len(v) != len(offer) {
		return false
	}
	if !areWithin(u, mostPrice) || !areWithin(v, mostPrice) {
		return false
	}
	sum := int64(0)
	for i, row := range offer {
		sum += u[i] + v[i]
		for post, x := range row {
			if u[i]+v[post] < x {
				return false
			}
		}
	}
	return sum == worth
}
