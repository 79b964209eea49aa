package word

// shortEnd is the greatest length of an ending that is put after words as it is. Words that are longer by a kept word and a letter are far from the greatest length.
const shortEnd = 4000

// hunt looks for the place in a word where the automaton goes wrong. The kept words that stand for the states by which the automaton goes replace the beginnings of the word: with the first of them the language still treats the word as it should, with the last one it no longer does.
type hunt struct {
	word    string
	want    bool // whether the language has it
	classes int  // the number of different rows, which is to become greater
}

// chase begins a hunt for a word that was received. If the word is so long that kept words in place of its first letters might make it longer than is allowed, they are not replaced, but stand for the word from which the hunt begins.
func (l *Learner) chase(w string) {
	longest := 0
	for _, k := range l.kept {
		longest = max(longest, len(k))
	}
	skip := max(0, longest+len(w)-maxWord)
	begin := w[:skip]
	l.fill([]string{begin}, func() {
		a := l.automaton()
		differ := l.rows[begin].bits ^ l.bits(a.run(0, begin))
		if differ != 0 {
			other := begin + l.end(differ)
			l.walk(hunt{other, l.known[other], l.classes()}, 0, 0)
			return
		}
		l.arrive(hunt{w, l.known[w], l.classes()}, begin, skip)
	})
}

// walk goes on with a hunt from the place in its word where the kept word with the number start replaces what is before it.
func (l *Learner) walk(h hunt, start, place int) {
	a := l.automaton()
	path := []int{start}
	for i := range len(h.word) - place {
		path = append(path, a.Next[path[i]][h.word[place+i]-'a'])
	}
	replaced := func(i int) string { return l.kept[path[i-place]] + h.word[i:] }
	found := func(i int) {
		end := h.word[i+1:]
		if len(end) <= shortEnd {
			l.ends = append(l.ends, end)
			l.settle(l.decide)
			return
		}
		w := l.kept[path[i-place]] + h.word[i:i+1]
		l.refuted[w] |= 1 << path[i+1-place]
		l.arrive(h, w, i+1)
	}
	low, high := place, len(h.word)
	if high-low <= shortEnd {
		l.search(low, high, 1, h.want, replaced, found)
		return
	}
	// Only if the last letters do not suffice, the ending is too long.
	middle := high - shortEnd
	l.ask([]string{replaced(middle)}, func() {
		if l.known[replaced(middle)] == h.want {
			l.search(middle, high, 1, h.want, replaced, found)
			return
		}
		l.search(low, middle, 0, h.want, replaced, found)
	})
}

// search looks for a place i from low on where the reply to replaced(i) is wanted, and that to replaced(i+1) is not; so it is for low and high. If back is not 0 it goes back from high in steps that become longer, so as to find a short ending.
func (l *Learner) search(low, high, back int, want bool, replaced func(int) string, found func(int)) {
	if high-low == 1 {
		found(low)
		return
	}
	middle := (low + high) / 2
	if back > 0 {
		middle = max(middle, high-back)
	}
	w := replaced(middle)
	l.ask([]string{w}, func() {
		if l.known[w] == want {
			l.search(middle, high, 0, want, replaced, found)
			return
		}
		l.search(low, middle, 2*back, want, replaced, found)
	})
}

// arrive goes on with a hunt at a place, to which w leads: it looks for a kept word that may stand for w, or keeps w.
func (l *Learner) arrive(h hunt, w string, place int) {
	i := l.leads(w)
	if i == none {
		l.kept = append(l.kept, w)
		at := len(l.kept) - 1
		l.settle(func() {
			if l.classes() == h.classes {
				l.walk(h, at, place)
				return
			}
			l.decide()
		})
		return
	}
	replaced := l.kept[i] + h.word[place:]
	l.ask([]string{replaced}, func() {
		if l.known[replaced] == h.want {
			l.walk(h, i, place)
			return
		}
		l.refuted[w] |= 1 << i
		l.arrive(h, w, place)
	})
}
