package same

import "math"

// link leads from a thing to the one above it; at a root it leads to the root itself. It was made because low, in the tree of the thing, is the same as high, in that of the one above, for a reason of the type W.
type link[W any] struct {
	up        int
	when      int // how many links were made before, or more than any number at a root
	low, high int
	why       W
}

// forest joins things into classes: each is a tree that is no deeper than the logarithm of its size, since the smaller one of two gets below the root of the larger one. Ways to roots are not shortened, so that each link remains what was joined and why; links higher up were made later.
type forest[W any] struct {
	links []link[W]
	sizes []int // of the trees of roots
	made  []int // the things that have links to others, in the order in which they got them
}

func newForest[W any](things int) *forest[W] {
	f := &forest[W]{links: make([]link[W], things), sizes: make([]int, things)}
	for x := range f.links {
		f.links[x].up = x
		f.links[x].when = math.MaxInt
		f.sizes[x] = 1
	}
	return f
}

func (f *forest[W]) root(x int) int {
	for f.links[x].up != x {
		x = f.links[x].up
	}
	return x
}

func (f *forest[W]) same(x, y int) bool {
	return f.root(x) == f.root(y)
}

// join joins the classes of x and y; it returns the root that is none any more, the one above it now, and false if they were in one class already.
func (f *forest[W]) join(x, y int, why W) (below, above int, joined bool) {
	below, above = f.root(x), f.root(y)
	if below == above {
		return 0, 0, false
	}
	if f.sizes[below] > f.sizes[above] {
		below, above, x, y = above, below, y, x
	}
	f.links[below] = link[W]{up: above, when: len(f.made), low: x, high: y, why: why}
	f.sizes[above] += f.sizes[below]
	f.made = append(f.made, below)
	return below, above, true
}

// meet returns the first thing above both x and y (or one of them), which are in one class.
func (f *forest[W]) meet(x, y int) int {
	for x != y {
		if f.links[x].when < f.links[y].when {
			x = f.links[x].up
		} else {
			y = f.links[y].up
		}
	}
	return x
}
