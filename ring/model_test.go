package ring_test

import (
	"math/bits"
	"math/rand"
	"slices"
	"testing"

	"minikin/api"
	"minikin/ring"
)

// model is a protocol as the chapter defines it: all configurations in the order of their numbers, and the steps between them.
type model struct {
	r       ring.Rules
	configs [][]int
	number  map[[6]int]int
	ready   [][]int    // of each configuration
	next    [2][][]int // of each configuration, with steps and with joint steps: the numbers of those after them
}

func key(config []int) [6]int {
	k := [6]int{-1, -1, -1, -1, -1, -1}
	copy(k[:], config)
	return k
}

func modelOf(r ring.Rules) *model {
	m := &model{r: r, number: map[[6]int]int{}}
	var list func(config []int)
	list = func(config []int) {
		if len(config) == r.Machines {
			m.number[key(config)] = len(m.configs)
			m.configs = append(m.configs, slices.Clone(config))
			return
		}
		for colour := range r.Colours {
			list(append(slices.Clone(config), colour))
		}
	}
	list(nil)
	for _, config := range m.configs {
		var ready []int
		for machine := range config {
			if m.takes(config, machine) != -1 {
				ready = append(ready, machine)
			}
		}
		m.ready = append(m.ready, ready)
	}
	for number := range m.configs {
		single, joint := m.steps(number)
		m.next[0], m.next[1] = append(m.next[0], single), append(m.next[1], joint)
	}
	return m
}

// takes returns what the table of a machine says.
func (m *model) takes(config []int, machine int) int {
	c := m.r.Colours
	l, r := config[len(config)-1], config[0]
	if machine > 0 {
		l = config[machine-1]
	}
	if machine < len(config)-1 {
		r = config[machine+1]
	}
	return m.r.Next[machine][(l*c+config[machine])*c+r]
}

// after returns the configuration after the joint step of machines that are ready.
func (m *model) after(config, machines []int) []int {
	to := slices.Clone(config)
	for _, machine := range machines {
		to[machine] = m.takes(config, machine)
	}
	return to
}

func (m *model) steps(number int) (single, joint []int) {
	config, ready := m.configs[number], m.ready[number]
	for set := 1; set < 1<<len(ready); set++ {
		var machines []int
		for i, machine := range ready {
			if set>>i&1 == 1 {
				machines = append(machines, machine)
			}
		}
		to := m.number[key(m.after(config, machines))]
		joint = append(joint, to)
		if bits.OnesCount(uint(set)) == 1 {
			single = append(single, to)
		}
	}
	return single, joint
}

func (m *model) good(number int) bool {
	return len(m.ready[number]) == 1
}

func (m *model) alwaysReady() bool {
	return !slices.ContainsFunc(m.ready, func(ready []int) bool { return len(ready) == 0 })
}

// left reports whether a step from a good configuration leads to one that is not.
func (m *model) left() bool {
	for number, next := range m.next[0] {
		if m.good(number) && !m.good(next[0]) {
			return true
		}
	}
	return false
}

func kindOf(joint bool) int {
	if joint {
		return 1
	}
	return 0
}

// longest returns for each configuration how many steps there can be at most from it through others that are not good, and false if there need be no end.
func (m *model) longest(joint bool) ([]int, bool) {
	v := make([]int, len(m.configs))
	for changed := true; changed; {
		changed = false
		for number := range v {
			if m.good(number) {
				continue
			}
			for _, to := range m.next[kindOf(joint)][number] {
				if v[to]+1 > v[number] {
					v[number], changed = v[to]+1, true
				}
			}
			if v[number] > len(v) {
				return nil, false
			}
		}
	}
	return v, true
}

// verdict returns what the verdict has to be, but no round.
func (m *model) verdict(joint bool) ring.Verdict {
	for number, ready := range m.ready {
		if len(ready) == 0 {
			return ring.Verdict{Code: 1, At: number}
		}
	}
	for number := range m.configs {
		for _, to := range m.next[kindOf(joint)][number] {
			if m.good(number) && !m.good(to) {
				return ring.Verdict{Code: 2, At: number}
			}
		}
	}
	v, ok := m.longest(joint)
	if !ok {
		return ring.Verdict{Code: 3}
	}
	return ring.Verdict{Code: 0, Most: slices.Max(v)}
}

func (m *model) isRank(rank []int) bool {
	if len(rank) != len(m.configs) {
		return false
	}
	for number, at := range rank {
		if at < 0 {
			return false
		}
		for _, to := range m.next[0][number] {
			if !m.good(number) && rank[to] >= at {
				return false
			}
		}
	}
	return true
}

func (m *model) isRound(round []int, joint bool) bool {
	for i, number := range round {
		if number < 0 || number >= len(m.configs) || m.good(number) || slices.Index(round, number) != i {
			return false
		}
		if !slices.Contains(m.next[kindOf(joint)][number], round[(i+1)%len(round)]) {
			return false
		}
	}
	return len(round) > 1
}

// checkVerdict compares Judge and Rank with the definitions, and returns the codes with steps and with joint steps.
func checkVerdict(t *testing.T, m *model) [2]int {
	t.Helper()
	var codes [2]int
	for _, joint := range []bool{false, true} {
		v, e := ring.Judge(m.r, joint)
		round := v.Round
		v.Round = nil
		due := m.verdict(joint)
		if e != api.OK || v.Code != due.Code || v.At != due.At || v.Most != due.Most {
			t.Fatalf("%v, %v: %v, %d, not %v", m.r, joint, v, e, due)
		}
		if v.Code == ring.Lasso != m.isRound(round, joint) || v.Code != ring.Lasso && len(round) > 0 || ring.IsRound(m.r, round, joint) != m.isRound(round, joint) {
			t.Fatalf("%v, %v: round %v", m.r, joint, round)
		}
		codes[kindOf(joint)] = v.Code
	}
	rank, e := ring.Rank(m.r)
	if codes[0] != ring.Steady {
		if len(rank) > 0 || e != api.ErrRules {
			t.Fatalf("%v: Rank: %v, %d", m.r, rank, e)
		}
		return codes
	}
	due, _ := m.longest(false)
	if !slices.Equal(rank, due) || e != api.OK || !ring.IsRank(m.r, rank) {
		t.Fatalf("%v: Rank: %v, %d, not %v", m.r, rank, e, due)
	}
	return codes
}

// smallest walks over all protocols of two machines with two colours.
func smallest(yield func(ring.Rules) bool) {
	for bits := range 1 << 16 {
		r := ring.Rules{Machines: 2, Colours: 2, Next: [][]int{make([]int, 8), make([]int, 8)}}
		for i := range 16 {
			r.Next[i/8][i%8] = -1
			if bits>>i&1 == 1 {
				r.Next[i/8][i%8] = 1 - i/2%2
			}
		}
		if !yield(r) {
			return
		}
	}
}

// random returns a protocol of a size in which a machine may move as often as often of 100 times.
func random(rnd *rand.Rand, machines, colours, often int) ring.Rules {
	r := ring.Rules{Machines: machines, Colours: colours}
	for range machines {
		table := make([]int, colours*colours*colours)
		for at := range table {
			table[at] = -1
			if rnd.Intn(100) < often {
				table[at] = (at/colours + 1 + rnd.Intn(colours-1)) % colours
			}
		}
		r.Next = append(r.Next, table)
	}
	return r
}

// changed changes some entries of a protocol.
func changed(rnd *rand.Rand, r ring.Rules, entries int) ring.Rules {
	for range entries {
		table, at := r.Next[rnd.Intn(r.Machines)], rnd.Intn(r.Colours*r.Colours*r.Colours)
		table[at] = -1
		if rnd.Intn(2) == 0 {
			table[at] = (at/r.Colours + 1 + rnd.Intn(r.Colours-1)) % r.Colours
		}
	}
	return r
}

func dijkstra(t *testing.T, machines, colours int) ring.Rules {
	t.Helper()
	r, e := ring.Dijkstra(machines, colours)
	if e != api.OK {
		t.Fatalf("Dijkstra(%d, %d): %d", machines, colours, e)
	}
	return r
}

func four(t *testing.T, machines int) ring.Rules {
	t.Helper()
	r, e := ring.Four(machines)
	if e != api.OK {
		t.Fatalf("Four(%d): %d", machines, e)
	}
	return r
}

// samples returns protocols of all kinds of verdicts.
func samples(t *testing.T) []ring.Rules {
	rnd := rand.New(rand.NewSource(8))
	var l []ring.Rules
	for range 150 {
		machines, colours := 2+rnd.Intn(3), 2+rnd.Intn(3)
		l = append(l, random(rnd, machines, colours, 10*rnd.Intn(11)))
		l = append(l, changed(rnd, dijkstra(t, machines, colours), rnd.Intn(4)))
		l = append(l, changed(rnd, four(t, 3+rnd.Intn(2)), rnd.Intn(4)))
	}
	for range 5 {
		l = append(l, random(rnd, 2, 6, 80), random(rnd, 5, 3, 60), random(rnd, 6, 2, 60), changed(rnd, dijkstra(t, 5, 4), 1), changed(rnd, dijkstra(t, 6, 2), 1))
	}
	return l
}
