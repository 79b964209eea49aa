package word

import (
	"math/bits"
	"slices"

	"minikin/api"
)

// Kinds of questions.
const (
	Member   = 1
	Guess    = 2
	Finished = 3
)

// Learner finds a language by asking. It keeps words that lead to different states of the language's least automaton. Rows of replies tell most of them apart; where they do not, what was refuted does.
type Learner struct {
	letters int
	known   map[string]bool   // the replies
	kept    []string          // the words that are kept
	ends    []string          // what is put after words to make their rows
	rows    map[string]row    // for the words that are kept, and those that are longer by a letter
	refuted map[string]uint64 // for a word, by a bit for each, the kept ones that have its row and lead to another state

	kind  int
	word  string            // the question, if it is Member
	reply func(member bool) // takes the reply to it
	guess Auto              // the last guess
	lost  bool              // whether no language with so few states has these replies
}

// row has a bit for each ending: whether the language has the word with it.
type row struct {
	bits   uint64
	filled int
}

// New returns a learner of a language with that many letters.
func New(letters int) (*Learner, api.Errno) {
	if letters < 1 || letters > 4 {
		return nil, api.ErrArg
	}
	l := &Learner{letters: letters, known: map[string]bool{}, kept: []string{""}, ends: []string{""}, rows: map[string]row{}, refuted: map[string]uint64{}}
	l.settle(l.decide)
	return l, api.OK
}

// Ask returns the open question: Member and a word, or Guess or Finished and an automaton.
func (l *Learner) Ask() (kind int, w string, a Auto) {
	if l == nil {
		return 0, "", Auto{}
	}
	if l.kind == Member {
		return Member, l.word, Auto{}
	}
	return l.kind, "", l.guess.copy()
}

// Tell replies whether the word of the question is in the language.
func (l *Learner) Tell(member bool) api.Errno {
	if l == nil {
		return api.ErrNil
	}
	if l.kind != Member {
		return api.ErrState
	}
	l.reply(member)
	return api.OK
}

// Right says that the guess is right.
func (l *Learner) Right() api.Errno {
	if l == nil {
		return api.ErrNil
	}
	if l.kind != Guess {
		return api.ErrState
	}
	l.kind = Finished
	return api.OK
}

// Wrong says that w is in just one of the guess and the language.
func (l *Learner) Wrong(w string) api.Errno {
	if l == nil {
		return api.ErrNil
	}
	if l.kind != Guess {
		return api.ErrState
	}
	if e := checkWord(l.letters, w); e != api.OK {
		return e
	}
	want := !l.guess.Good[l.guess.run(0, w)]
	if is, ok := l.known[w]; l.lost || ok && is != want {
		return api.OK // no language has these replies; the guess stays
	}
	l.known[w] = want
	l.chase(w)
	return api.OK
}

// ask asks for the words one after the other, unless they are known, and then goes on.
func (l *Learner) ask(words []string, then func()) {
	for i, w := range words {
		if _, ok := l.known[w]; ok {
			continue
		}
		l.kind, l.word = Member, w
		l.reply = func(member bool) {
			l.known[w] = member
			l.ask(words[i+1:], then)
		}
		return
	}
	then()
}

// settle fills the rows, keeps words until each word that is longer than a kept one by a letter leads where one of them does, and adds endings until kept words with the same row go on alike. Then it goes on.
func (l *Learner) settle(then func()) {
	if len(l.kept) > api.MaxStates || len(l.ends) > api.MaxStates {
		l.lost = true
		l.kind = Guess
		return
	}
	l.fill(l.table(), func() {
		if w, ok := l.missing(); ok {
			l.kept = append(l.kept, w)
			l.settle(then)
			return
		}
		if end, ok := l.unlike(); ok {
			l.ends = append(l.ends, end)
			l.settle(then)
			return
		}
		then()
	})
}

// table returns the kept words and those that are longer by a letter.
func (l *Learner) table() []string {
	out := slices.Clone(l.kept)
	for _, w := range l.kept {
		for x := range l.letters {
			out = append(out, longer(w, x))
		}
	}
	return out
}

// longer returns w with one letter more.
func longer(w string, x int) string { return w + "abcd"[x:x+1] }

// fill asks what the rows of the words lack, and then goes on.
func (l *Learner) fill(words []string, then func()) {
	var lacking []string
	for _, w := range words {
		for _, end := range l.ends[l.rows[w].filled:] {
			lacking = append(lacking, w+end)
		}
	}
	l.ask(lacking, func() {
		for _, w := range words {
			r := l.rows[w]
			for ; r.filled < len(l.ends); r.filled++ {
				if l.known[w+l.ends[r.filled]] {
					r.bits |= 1 << r.filled
				}
			}
			l.rows[w] = r
		}
		then()
	})
}

// bits returns the bits of the row of a kept word.
func (l *Learner) bits(i int) uint64 { return l.rows[l.kept[i]].bits }

// leads returns the number of the first kept word that may lead where w does, or none.
func (l *Learner) leads(w string) int {
	for i := range l.kept {
		if l.bits(i) == l.rows[w].bits && l.refuted[w]>>i&1 == 0 {
			return i
		}
	}
	return none
}

// missing returns the first word that leads where no kept word does.
func (l *Learner) missing() (string, bool) {
	for _, w := range l.table() {
		if l.leads(w) == none {
			return w, true
		}
	}
	return "", false
}

// unlike returns an ending that tells apart kept words with the same row, which after the same letter have different ones.
func (l *Learner) unlike() (string, bool) {
	for i, v := range l.kept {
		for j, w := range l.kept[:i] {
			for x := range l.letters {
				differ := l.rows[longer(v, x)].bits ^ l.rows[longer(w, x)].bits
				if l.bits(i) == l.bits(j) && differ != 0 {
					return longer("", x) + l.end(differ), true
				}
			}
		}
	}
	return "", false
}

// end returns the first of the endings with these bits.
func (l *Learner) end(bit uint64) string { return l.ends[bits.TrailingZeros64(bit)] }

// classes returns the number of different rows of kept words.
func (l *Learner) classes() int {
	var all []uint64
	for i := range l.kept {
		all = append(all, l.bits(i))
	}
	_, count := number(all)
	return count
}

// automaton returns the automaton whose states are the kept words. Those with the same row accept the same words.
func (l *Learner) automaton() Auto {
	a := Auto{Letters: l.letters}
	for i, w := range l.kept {
		next := make([]int, l.letters)
		for x := range next {
			next[x] = l.leads(longer(w, x))
		}
		a.Next = append(a.Next, next)
		a.Good = append(a.Good, l.bits(i)&1 == 1)
	}
	return a
}

// decide guesses the automaton, if it agrees with all rows; then each of its classes is a state of the guess.
func (l *Learner) decide() {
	a := l.automaton()
	for i := range l.kept {
		for j, end := range l.ends {
			if is := l.bits(i)>>j&1 == 1; is != a.Good[a.run(i, end)] {
				l.walk(hunt{end, is, l.classes()}, i, 0)
				return
			}
		}
	}
	for i, w := range l.kept {
		if differ := l.bits(i) ^ l.bits(a.run(0, w)); differ != 0 {
			w += l.end(differ)
			l.walk(hunt{w, l.known[w], l.classes()}, 0, 0)
			return
		}
	}
	l.guess = least(a).auto()
	l.kind = Guess
}
