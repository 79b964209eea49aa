package ring

import "slices"

// judge returns the verdict; if it is Steady, also for each configuration how many steps there can be at most until one is good.
func (c chart) judge() (Verdict, []int) {
	if at := slices.Index(c.movable, 0); at >= 0 {
		return Verdict{Code: Stuck, At: at}, nil
	}
	for number := range c.movable {
		if c.isGood(number) && c.leaves(number) {
			return Verdict{Code: Leaves, At: number}, nil
		}
	}
	left, round := c.search()
	if round != nil {
		return Verdict{Code: Lasso, Round: round}, nil
	}
	return Verdict{Code: Steady, Most: slices.Max(left)}, left
}

// leaves reports whether a step leads to a configuration that is not good.
func (c chart) leaves(number int) bool {
	for next := range c.steps(number) {
		if !c.isGood(next) {
			return true
		}
	}
	return false
}

// search returns for each configuration how many steps there can be at most until one is good; or a round, if there is one.
func (c chart) search() (left, round []int) {
	const (
		unknown = -1
		onWay   = -2
	)
	left = make([]int, len(c.movable))
	for number := range left {
		if !c.isGood(number) {
			left[number] = unknown
		}
	}
	var way []int
	var visit func(number int)
	visit = func(number int) {
		way = append(way, number)
		left[number] = onWay
		most := 0
	steps:
		for next := range c.steps(number) {
			switch left[next] {
			case onWay:
				round = slices.Clone(way[slices.Index(way, next):])
				break steps
			case unknown:
				if visit(next); round != nil {
					break steps
				}
			}
			most = max(most, left[next]+1)
		}
		left[number] = most
		way = way[:len(way)-1]
	}
	for number := range left {
		if left[number] == unknown {
			visit(number)
		}
		if round != nil {
			return nil, round
		}
	}
	return left, nil
}

func (c chart) isRank(rank []int) bool {
	if len(rank) != len(c.movable) {
		return false
	}
	for number, at := range rank {
		if at < 0 {
			return false
		}
		if c.isGood(number) {
			continue
		}
		for next := range c.steps(number) {
			if rank[next] >= at {
				return false
			}
		}
	}
	return true
}

func (c chart) isRound(round []int) bool {
	if len(round) == 0 {
		return false
	}
	met := make([]bool, len(c.movable))
	for _, number := range round {
		if !c.has(number) || c.isGood(number) || met[number] {
			return false
		}
		met[number] = true
	}
	last := round[len(round)-1]
	for _, number := range round {
		if !c.leads(last, number) {
			return false
		}
		last = number
	}
	return true
}

// leads reports whether there is a step from one configuration to another one.
func (c chart) leads(from, to int) bool {
	for next := range c.steps(from) {
		if next == to {
			return true
		}
	}
	return false
}
