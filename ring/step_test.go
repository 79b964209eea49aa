package ring_test

import (
	"math"
	"math/rand"
	"slices"
	"testing"

	"minikin/api"
	"minikin/ring"
)

// TestNumbers: P8.2's numbers of all configurations, there and back.
func TestNumbers(t *testing.T) {
	for machines := 2; machines <= 6; machines++ {
		for colours := 2; colours <= 6 && machines+colours < 12; colours++ {
			r := dijkstra(t, machines, colours)
			m := modelOf(r)
			for number, config := range m.configs {
				got, e := ring.Config(r, number)
				if !slices.Equal(got, config) || e != api.OK {
					t.Fatalf("Config(%d): %v, %d", number, got, e)
				}
				back, e := ring.Number(r, config)
				if back != number || e != api.OK {
					t.Fatalf("Number(%v): %d, %d", config, back, e)
				}
			}
			last := len(m.configs) - 1
			for _, number := range []int{-1, last + 1, last + 2, math.MaxInt, math.MinInt} {
				if got, e := ring.Config(r, number); len(got) > 0 || e != api.ErrArg {
					t.Errorf("Config(%d): %v, %d", number, got, e)
				}
			}
		}
	}
	r := dijkstra(t, 3, 6)
	if number, e := ring.Number(r, []int{1, 2, 3}); number != 51 || e != api.OK {
		t.Errorf("machine 0's colour is not the first digit: %d, %d", number, e)
	}
}

// TestSteps: Ready, Good and Step for all configurations and all sets of machines.
func TestSteps(t *testing.T) {
	for _, r := range samples(t) {
		m := modelOf(r)
		var goods []int
		for number, config := range m.configs {
			if m.good(number) {
				goods = append(goods, number)
			}
			ready, e := ring.Ready(r, config)
			if !slices.Equal(ready, m.ready[number]) || e != api.OK {
				t.Fatalf("%v: Ready(%v): %v, %d", r, config, ready, e)
			}
			if number%5 > 0 && len(m.configs) > 100 {
				continue
			}
			checkSteps(t, m, number)
		}
		if got, e := ring.Good(r); !slices.Equal(got, goods) || e != api.OK {
			t.Fatalf("%v: Good: %v, %d", r, got, e)
		}
	}
}

func checkSteps(t *testing.T, m *model, number int) {
	t.Helper()
	config := m.configs[number]
	for set := 1; set < 1<<m.r.Machines; set++ {
		var machines []int
		may := true
		for machine := range config {
			if set>>machine&1 == 1 {
				machines = append(machines, machine)
				may = may && slices.Contains(m.ready[number], machine)
			}
		}
		got, e := ring.Step(m.r, config, machines)
		if !may {
			if len(got) > 0 || e != api.ErrMove {
				t.Fatalf("%v: Step(%v, %v): %v, %d", m.r, config, machines, got, e)
			}
			continue
		}
		if !slices.Equal(got, m.after(config, machines)) || e != api.OK {
			t.Fatalf("%v: Step(%v, %v): %v, %d", m.r, config, machines, got, e)
		}
	}
}

// TestTwoMachines: the machine before and the one after are the same one.
func TestTwoMachines(t *testing.T) {
	rnd := rand.New(rand.NewSource(82))
	r := random(rnd, 2, 3, 70)
	for a := range 3 {
		for b := range 3 {
			takes := [2]int{r.Next[0][(b*3+a)*3+b], r.Next[1][(a*3+b)*3+a]}
			ready, e := ring.Ready(r, []int{a, b})
			for machine := range 2 {
				if slices.Contains(ready, machine) != (takes[machine] != -1) || e != api.OK {
					t.Errorf("%d, %d: %v, %d", a, b, ready, e)
				}
			}
			if len(ready) < 2 {
				continue
			}
			if got, e := ring.Step(r, []int{a, b}, []int{0, 1}); !slices.Equal(got, takes[:]) || e != api.OK {
				t.Errorf("%d, %d: %v, %d", a, b, got, e)
			}
		}
	}
}

// TestMachinesOfStep: the edge cases that the chapter names.
func TestMachinesOfStep(t *testing.T) {
	r := dijkstra(t, 4, 3)
	config := []int{0, 1, 1, 0} // machine 2 is not ready
	for _, c := range []struct {
		machines []int
		due      api.Errno
	}{
		{[]int{0, 1, 3}, api.OK},
		{[]int{3}, api.OK},
		{nil, api.ErrArg},
		{[]int{}, api.ErrArg},
		{[]int{1, 1}, api.ErrArg},
		{[]int{0, 0, 1}, api.ErrArg},
		{[]int{1, 0}, api.ErrArg},
		{[]int{0, 3, 1}, api.ErrArg},
		{[]int{-1}, api.ErrArg},
		{[]int{4}, api.ErrArg},
		{[]int{0, 4}, api.ErrArg},
		{[]int{math.MinInt, 0}, api.ErrArg},
		{[]int{0, math.MaxInt}, api.ErrArg},
		{[]int{0, 1, 2, 3, 4}, api.ErrArg},
		{[]int{2, 2}, api.ErrArg},
		{[]int{2, 1}, api.ErrArg},
		{[]int{2, 4}, api.ErrArg},
		{[]int{2}, api.ErrMove},
		{[]int{0, 1, 2}, api.ErrMove},
		{[]int{2, 3}, api.ErrMove},
		{[]int{0, 1, 2, 3}, api.ErrMove},
	} {
		got, e := ring.Step(r, config, c.machines)
		if e != c.due || (len(got) > 0) != (e == api.OK) {
			t.Errorf("%v: %v, %d", c.machines, got, e)
		}
	}
	if got, _ := ring.Step(r, config, []int{0, 1, 3}); !slices.Equal(got, []int{1, 0, 1, 1}) {
		t.Errorf("not by the old colours: %v", got)
	}
}

// play plays by the definition, and returns false if no machine is ready when one is due.
func (m *model) play(config, choices []int) ([]int, bool) {
	for _, choice := range choices {
		ready := m.ready[m.number[key(config)]]
		if len(ready) == 0 {
			return nil, false
		}
		config = m.after(config, []int{ready[choice%len(ready)]})
	}
	return config, true
}

// TestPlay: plays with random choices.
func TestPlay(t *testing.T) {
	rnd := rand.New(rand.NewSource(821))
	stuck := 0
	for _, r := range samples(t) {
		m := modelOf(r)
		for range 10 {
			config := m.configs[rnd.Intn(len(m.configs))]
			choices := make([]int, rnd.Intn(30))
			for i := range choices {
				if choices[i] = rnd.Intn(8); rnd.Intn(5) == 0 {
					choices[i] = rnd.Int()
				}
			}
			due, ok := m.play(config, choices)
			got, e := ring.Play(r, config, choices)
			if !ok {
				if stuck++; len(got) > 0 || e != api.ErrMove {
					t.Fatalf("%v: Play(%v, %v): %v, %d", r, config, choices, got, e)
				}
				continue
			}
			if !slices.Equal(got, due) || e != api.OK {
				t.Fatalf("%v: Play(%v, %v): %v, %d, not %v", r, config, choices, got, e, due)
			}
		}
	}
	if stuck < 100 {
		t.Errorf("only %d without a machine that is ready", stuck)
	}
}

// TestChoices: the edge cases that the chapter names.
func TestChoices(t *testing.T) {
	r := dijkstra(t, 3, 2)
	all := []int{0, 1, 0}
	for _, c := range []struct {
		choices, due []int
	}{
		{nil, []int{0, 1, 0}},
		{[]int{0}, []int{1, 1, 0}},
		{[]int{1}, []int{0, 0, 0}},
		{[]int{2}, []int{0, 1, 1}},
		{[]int{3}, []int{1, 1, 0}},
		{[]int{4, 0, 7}, []int{1, 1, 0}},
		{[]int{math.MaxInt}, []int{0, 0, 0}},
	} {
		if got, e := ring.Play(r, all, c.choices); !slices.Equal(got, c.due) || e != api.OK {
			t.Errorf("%v: %v, %d", c.choices, got, e)
		}
	}
	like := []int{1, 1, -1, -1, -1, -1, 0, 0}
	r = ring.Rules{Machines: 2, Colours: 2, Next: [][]int{like, like}}
	for _, c := range []struct {
		choices []int
		due     api.Errno
	}{
		{[]int{0}, api.OK},
		{[]int{0, 0}, api.ErrMove},
		{[]int{0, 0, 5, 5}, api.ErrMove},
		{[]int{-1}, api.ErrArg},
		{[]int{0, -1}, api.ErrArg},
		{[]int{0, 0, -1}, api.ErrArg}, // no machine is ready before it, but a choice is negative
		{[]int{0, 0, 0, math.MinInt}, api.ErrArg},
	} {
		got, e := ring.Play(r, []int{0, 0}, c.choices)
		if e != c.due || (len(got) > 0) != (e == api.OK) {
			t.Errorf("%v: %v, %d", c.choices, got, e)
		}
	}
	for _, config := range [][]int{{0, 1}, {1, 0}} {
		if got, e := ring.Play(r, config, nil); !slices.Equal(got, config) || e != api.OK {
			t.Errorf("no choices: %v, %d", got, e)
		}
	}
}

// TestManyChoices: a long list of them takes no more than its length in steps.
func TestManyChoices(t *testing.T) {
	r := dijkstra(t, 6, 5)
	if got, e := ring.Play(r, []int{4, 3, 2, 1, 0, 4}, make([]int, 1000000)); len(got) != 6 || e != api.OK {
		t.Errorf("%v, %d", got, e)
	}
}
