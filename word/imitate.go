package word

// web returns the machine as a web.
func (m machine) web() web {
	n := web{letters: m.letters, start: one(0)}
	for s, row := range m.next {
		if m.good[s] {
			n.good = n.good.with(one(s))
		}
		n.next = append(n.next, moves(row, m.letters, one))
	}
	return n.trimmed()
}

// imitate returns, for each state of a, the states of b that can imitate it: whatever steps it makes, they have such ones too, and are in good states when it is. So they accept all words that it accepts. If b goes by each letter to at most one state, and a has no step to a state that accepts nothing, they are all states that do.
func imitate(a, b web) []set {
	out := make([]set, len(a.next))
	for s := range out {
		out[s] = b.good
		if !a.good.has(s) {
			out[s] = first(len(b.next))
		}
	}
	for changed := true; changed; {
		changed = false
		for s, old := range out {
			for x := range a.letters {
				for t := range a.next[s][x].all() {
					out[s] = out[s].only(b.before(out[t], x))
				}
			}
			changed = changed || out[s] != old
		}
	}
	return out
}

// turned returns, for each of count numbers, the set of the positions of the sets that it is in.
func turned(sets []set, count int) []set {
	out := make([]set, count)
	for i, a := range sets {
		for s := range a.all() {
			out[s] = out[s].with(one(i))
		}
	}
	return out
}
