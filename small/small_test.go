package small_test

import (
	"math"
	"slices"
	"testing"

	"minikin/small"
)

func TestLists(t *testing.T) {
	for _, l := range [][]int{nil, {0}, {63}, {0, 1, 5, 63}, {2, 3, 4}} {
		s, ok := small.Rising(l, 64)
		if !ok || !slices.Equal(s.List(), l) || s.Size() != len(l) {
			t.Errorf("%v: %v, %v, %d", l, s.List(), ok, s.Size())
		}
		for n := range 64 {
			if s.Has(n) != slices.Contains(l, n) {
				t.Errorf("%v has %d: %v", l, n, s.Has(n))
			}
		}
		if len(l) > 0 && s.First() != l[0] {
			t.Errorf("%v: first %d", l, s.First())
		}
		var some []int
		for n := range s.All() {
			if some = append(some, n); len(some) == 2 {
				break
			}
		}
		if !slices.Equal(some, l[:min(2, len(l))]) {
			t.Errorf("%v: begins with %v", l, some)
		}
	}
}

func TestRising(t *testing.T) {
	for _, l := range [][]int{{1, 1}, {2, 1}, {-1}, {0, 24}, {24}, {math.MinInt}, {math.MaxInt}, {0, math.MinInt}} {
		if s, ok := small.Rising(l, 24); s != 0 || ok {
			t.Errorf("%v: %v, %v", l, s.List(), ok)
		}
	}
}

func TestBelow(t *testing.T) {
	for n := range 65 {
		s := small.Below(n)
		if s.Size() != n || n > 0 && (!s.Has(0) || !s.Has(n-1)) {
			t.Errorf("below %d: %v", n, s.List())
		}
	}
	if small.One(63).List()[0] != 63 || small.One(0) != small.Below(1) {
		t.Error("one")
	}
}
