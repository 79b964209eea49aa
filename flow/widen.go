package flow

import (
	"math"

	"minikin/small"
)

// half is one direction of a step, with the room that a flow leaves in it.
type half struct {
	to   int
	room int64
}

// works is a plan through which a flow is led. The halves of step i are at 2i and 2i+1, so that h^1 is the opposite of h.
type works struct {
	halves       [2 * mostSteps]half
	out          [mostPlaces][]int // the halves that leave each place
	source, sink int
	level        [mostPlaces]int // 1 for the source, more for places farther from it, 0 for those that no room leads to
}

// lay returns the works of p without a flow. All places of from are one, the source.
func lay(p plan, from small.Set, to int) *works {
	w := &works{source: from.First(), sink: to}
	at := func(place int) int {
		if from.Has(place) {
			return w.source
		}
		return place
	}
	_, steps := p.size()
	for i := range steps {
		a, b, there, back := p.step(i)
		a, b = at(a), at(b)
		w.halves[2*i] = half{to: b, room: there}
		w.halves[2*i+1] = half{to: a, room: back}
		w.out[a] = append(w.out[a], 2*i)
		w.out[b] = append(w.out[b], 2*i+1)
	}
	return w
}

// fill leads as much as it can from the source to the sink and returns how much that is.
func (w *works) fill() int64 {
	value := int64(0)
	for w.measure() {
		value += w.widen()
	}
	return value
}

// measure finds the level of each place, up to that of the sink, and reports whether the sink has one.
func (w *works) measure() bool {
	w.level = [mostPlaces]int{}
	w.level[w.source] = 1
	line := []int{w.source}
search:
	for i := 0; i < len(line); i++ {
		for _, h := range w.out[line[i]] {
			to := w.halves[h].to
			if w.halves[h].room == 0 || w.level[to] > 0 {
				continue
			}
			w.level[to] = w.level[line[i]] + 1
			if to == w.sink {
				break search
			}
			line = append(line, to)
		}
	}
	return w.level[w.sink] > 0
}

// widen takes ways on which each half leads to the next level, until all of them are full. It returns what they let through.
func (w *works) widen() int64 {
	var tried [mostPlaces]int // how many of each place's halves lead no farther
	var push func(at int, most int64) int64
	push = func(at int, most int64) int64 {
		if at == w.sink {
			return most
		}
		for ; tried[at] < len(w.out[at]); tried[at]++ {
			h := w.out[at][tried[at]]
			x := w.halves[h]
			if x.room == 0 || w.level[x.to] != w.level[at]+1 {
				continue
			}
			if got := push(x.to, min(most, x.room)); got > 0 {
				w.halves[h].room -= got
				w.halves[h^1].room += got
				return got
			}
		}
		return 0
	}
	sum := int64(0)
	for got := push(w.source, math.MaxInt64); got > 0; got = push(w.source, math.MaxInt64) {
		sum += got
	}
	return sum
}

// taken returns what goes through each arc of a network with n arcs: the room that its opposite, which had none, has now.
func (w *works) taken(n int) []int64 {
	flow := make([]int64, n)
	for i := range flow {
		flow[i] = w.halves[2*i+1].room
	}
	return flow
}

// near returns the places to which there is room from the source, when the works are full.
func (w *works) near() small.Set {
	side := small.Set(0)
	for place, level := range w.level {
		if level > 0 {
			side |= small.One(place)
		}
	}
	return side
}

// firstCut returns the cut of s and t of least capacity that is a subset of all others, and this capacity.
func firstCut(p plan, s, t int) (small.Set, int64) {
	w := lay(p, small.One(s), t)
	capacity := w.fill()
	return w.near(), capacity
}
