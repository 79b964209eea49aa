package task

import (
	"math/rand"
	"testing"

	"minikin/small"
)

// fewest returns the bytes of the shortest conjunction of views that is false at all states of out, by trying all of them.
func fewest(views []view, out small.Set) int {
	least := mostBytes
	for some := range small.Set(1) << len(views) {
		left, bytes, none := out, -bothBytes, false
		for i := range some.All() {
			left, bytes, none = left&views[i].at, bytes+views[i].bytes+bothBytes, none || views[i].formula == nil
		}
		if left == 0 && !none {
			least = min(least, bytes)
		}
	}
	return least
}

func TestConjunction(t *testing.T) {
	r := rand.New(rand.NewSource(62))
	for range 3000 {
		states := 1 + r.Intn(8)
		out := small.Below(states) &^ 1
		var views []view
		for range r.Intn(10) {
			f, bytes := formula(truth{}), 1
			for range r.Intn(20) {
				f, bytes = not{of: f}, bytes+1
			}
			at := small.Set(r.Intn(1<<states)) | small.Set(r.Intn(1<<states)) | 1
			views = append(views, view{formula: f, bytes: bytes, at: at})
			if r.Intn(5) == 0 {
				views = append(views, view{})
			}
		}
		want := fewest(views, out)
		if out == 0 {
			continue
		}
		got := conjunction(append([]view(nil), views...), out)
		if (got.formula == nil) != (want == mostBytes) {
			t.Fatalf("%v: %v, not %d", views, got, want)
		}
		if got.formula != nil && (got.bytes != want || got.bytes != len(got.formula.put(nil)) || got.at&out != 0 || got.at&1 == 0) {
			t.Fatalf("%v: %v, not %d", views, got, want)
		}
	}
}

// TestManyViews: the time for many views is bounded, and what is found fits.
func TestManyViews(t *testing.T) {
	r := rand.New(rand.NewSource(63))
	out := small.Below(64) &^ 1
	for range 20 {
		var views []view
		for range 1000 {
			at := small.Set(r.Uint64()) | small.Set(r.Uint64()) | 1
			views = append(views, view{formula: truth{}, bytes: 1000 + r.Intn(1000), at: at})
		}
		if got := conjunction(views, out); got.formula == nil || got.at&out != 0 || got.at&1 == 0 {
			t.Fatalf("%v", got)
		}
	}
}
