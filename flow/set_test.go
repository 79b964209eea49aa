package flow

import (
	"slices"
	"testing"
)

func TestSet(t *testing.T) {
	for _, l := range [][]int{nil, {0}, {23}, {0, 1, 5, 23}, {2, 3, 4}} {
		s, ok := rising(l, 24)
		if !ok || !slices.Equal(s.list(), l) {
			t.Errorf("%v: %v, %v", l, s.list(), ok)
		}
		var some []int
		for p := range s.places() {
			if some = append(some, p); len(some) == 2 {
				break
			}
		}
		if !slices.Equal(some, l[:min(2, len(l))]) {
			t.Errorf("%v: begins with %v", l, some)
		}
	}
}
