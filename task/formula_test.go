package task_test

import (
	"math"
	"math/rand"
	"slices"
	"strings"
	"testing"

	"minikin/api"
	"minikin/task"
)

// long returns a formula of n bytes.
func long(n int) string {
	return strings.Repeat("!", n-1) + "T"
}

// tree is a formula made at random, by its text and by where it is true by the definition.
type tree struct {
	text  string
	depth int
	holds func(s task.System, p int) bool
}

// grow returns a random formula with some levels.
func grow(r *rand.Rand, levels int) tree {
	if levels == 0 {
		return tree{text: "T", holds: func(s task.System, p int) bool { return true }}
	}
	a := grow(r, r.Intn(levels))
	b := grow(r, levels-1)
	switch r.Intn(3) {
	case 0:
		return tree{text: "!" + b.text, depth: b.depth, holds: func(s task.System, p int) bool { return !b.holds(s, p) }}
	case 1:
		return tree{text: "(" + a.text + "&" + b.text + ")", depth: max(a.depth, b.depth), holds: func(s task.System, p int) bool { return a.holds(s, p) && b.holds(s, p) }}
	}
	label := r.Intn(3)
	return tree{text: "<" + string(rune('0'+label)) + ">" + b.text, depth: 1 + b.depth, holds: func(s task.System, p int) bool {
		return slices.ContainsFunc(ends(s, p, label), func(q int) bool { return b.holds(s, q) })
	}}
}

func TestFormulas(t *testing.T) {
	r := rand.New(rand.NewSource(54))
	for range 1000 {
		f := grow(r, r.Intn(7))
		if d, e := task.Depth(f.text); d != f.depth || e != api.OK {
			t.Fatalf("Depth(%q): %d, %d", f.text, d, e)
		}
		n := 1 + r.Intn(6)
		s := within(random(r, n, r.Intn(2*n), 0, 1, 2))
		before := slices.Clone(around(s))
		var want []int
		for p := range n {
			is, e := task.Holds(s, p, f.text)
			if is != f.holds(s, p) || e != api.OK {
				t.Fatalf("Holds(%v, %d, %q): %v, %d", s, p, f.text, is, e)
			}
			if is {
				want = append(want, p)
			}
		}
		where, e := task.Where(s, f.text)
		if !slices.Equal(where, want) || e != api.OK || !slices.Equal(around(s), before) {
			t.Fatalf("Where(%v, %q): %v, %d", s, f.text, where, e)
		}
		for i := range where {
			where[i] = -1
		}
		if where, _ = task.Where(s, f.text); !slices.Equal(where, want) {
			t.Fatalf("Where(%v, %q): then %v", s, f.text, where)
		}
	}
}

// TestLabels: each digit is a label of its own, and 0 is one as the others are.
func TestLabels(t *testing.T) {
	s := task.System{States: 12}
	for a := range 10 {
		s.Steps = append(s.Steps, task.Step{From: a, Label: a, To: 11})
	}
	for a := range 10 {
		if l, e := task.Where(s, "<"+string(rune('0'+a))+">T"); !slices.Equal(l, []int{a}) || e != api.OK {
			t.Errorf("%d: %v, %d", a, l, e)
		}
	}
	all := make([]int, 64)
	for p := range all {
		all[p] = p
	}
	if l, _ := task.Where(system(64), "T"); !slices.Equal(l, all) {
		t.Errorf("T: %v", l)
	}
	if l, e := task.Where(system(64), "!T"); len(l) != 0 || e != api.OK {
		t.Errorf("!T: %v, %d", l, e)
	}
}

// refused checks that a text gives an error in all calls.
func refused(t *testing.T, text string, want api.Errno) {
	t.Helper()
	short := text[:min(len(text), 60)]
	if d, e := task.Depth(text); d != 0 || e != want {
		t.Errorf("Depth(%q): %d, %d", short, d, e)
	}
	if is, e := task.Holds(forks, 0, text); is || e != want {
		t.Errorf("Holds(%q): %v, %d", short, is, e)
	}
	if l, e := task.Where(forks, text); len(l) != 0 || e != want {
		t.Errorf("Where(%q): %v, %d", short, l, e)
	}
	for _, p := range []int{-1, 9, 64, math.MinInt, math.MaxInt} {
		if is, e := task.Holds(forks, p, text); is || e != api.ErrArg {
			t.Errorf("Holds(%d, %q): %v, %d", p, short, is, e)
		}
	}
}

// TestNearlyFormulas: what is nearly a formula is none (P5.3).
func TestNearlyFormulas(t *testing.T) {
	for _, text := range []string{
		"", " ", "t", "F", "TT", "T ", " T", "T\n", "!", "!!", "T!", "!TT", "(", "()", "(T", "(T)", "(T&", "(T&)", "(&T)", "(T&T", "T&T", "(T&T))", "((T&T)", "(T&T&T)", "(T&T)T", "(T|T)", "(T &T)", "(TT)", ")", "&",
		"<", "<1", "<1>", "<>T", "<1T", "1>T", "<12>T", "<a>T", "<-1>T", "<+1>T", "< 1>T", "<1>>T", "<<1>T", "<1>T<1>", "<:>T", "</>T", "<\xd9\xa1>T", "\xff", "T\x00", "\x00", "[1]T", "<1>T&", "!(T&T", "(<1>T&<2>)", "(!&T)",
		long(99999) + "T", long(99999)[1:] + "!", strings.Repeat("!", 100000), strings.Repeat("(", 100000), strings.Repeat("<1>", 33333), strings.Repeat("<1>", 33333) + "<", strings.Repeat("(T&", 33333) + "T", strings.Repeat("(", 25000) + "T" + strings.Repeat("&T)", 24999),
	} {
		refused(t, text, api.ErrFormula)
	}
	// The error of length comes first, whatever the text is.
	for _, text := range []string{long(100001), strings.Repeat(" ", 100001), strings.Repeat("(", 100001), long(200000), strings.Repeat("T", 1<<20)} {
		refused(t, text, api.ErrLong)
	}
}

// TestLongFormulas: formulas of up to 100000 bytes, as deep as they can be (P5.3).
func TestLongFormulas(t *testing.T) {
	circle := system(3, 0, 1, 1, 1, 1, 0)
	left := strings.Repeat("(", 24999) + "T" + strings.Repeat("&T)", 24999)
	right := strings.Repeat("(T&", 24999) + "T" + strings.Repeat(")", 24999)
	for _, x := range []struct {
		text  string
		depth int
		where []int
	}{
		{"T", 0, []int{0, 1, 2}},
		{long(100000), 0, nil},
		{long(99999), 0, []int{0, 1, 2}},
		{strings.Repeat("<1>", 33333) + "T", 33333, []int{0, 1}},
		{strings.Repeat("!<1>", 24999) + "!!!T", 24999, []int{0, 1, 2}},
		{strings.Repeat("!<1>", 24999) + "!!T", 24999, []int{2}},
		{strings.Repeat("<1>", 33332) + "<2>T", 33333, nil},
		{strings.Repeat("!", 3) + left, 0, nil},
		{right, 0, []int{0, 1, 2}},
	} {
		d, e := task.Depth(x.text)
		where, f := task.Where(circle, x.text)
		if d != x.depth || e != api.OK || !slices.Equal(where, x.where) || f != api.OK {
			t.Errorf("%q, %d bytes: %d, %d, %v, %d", x.text[:min(20, len(x.text))], len(x.text), d, e, where, f)
		}
	}
}

// TestShortTexts goes through all texts of up to 6 bytes: just those that the definition makes are formulas.
func TestShortTexts(t *testing.T) {
	made := [][]string{nil, {"T"}}
	is := map[string]bool{"T": true}
	for n := 2; n <= 6; n++ {
		var list []string
		for _, f := range made[n-1] {
			list = append(list, "!"+f)
		}
		if n > 3 {
			for _, f := range made[n-3] {
				list = append(list, "<1>"+f)
			}
		}
		for i := 1; i <= n-4; i++ {
			for _, f := range made[i] {
				for _, g := range made[n-3-i] {
					list = append(list, "("+f+"&"+g+")")
				}
			}
		}
		made = append(made, list)
		for _, f := range list {
			is[f] = true
		}
	}
	var try func(text string)
	try = func(text string) {
		if _, e := task.Depth(text); (e == api.OK) != is[text] || e != api.OK && e != api.ErrFormula {
			t.Fatalf("Depth(%q): %d", text, e)
		}
		if len(text) < 6 {
			for _, c := range "T!(&)<1>" {
				try(text + string(c))
			}
		}
	}
	try("")
}
