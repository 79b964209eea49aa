package task

import (
	"minikin/api"
	"minikin/small"
)

// mostBytes is the number of bytes of the longest formulas.
const mostBytes = 100000

// formula is a formula as a tree of these types: truth, not, both, may.
type formula interface {
	// put returns text with that of the formula after it.
	put(text []byte) []byte
}

type truth struct{}

type not struct {
	of formula
}

type both struct {
	one, two formula
}

// may says that there is a step with the label to a state at which then is true.
type may struct {
	label int
	then  formula
}

func (truth) put(text []byte) []byte {
	return append(text, 'T')
}

func (f not) put(text []byte) []byte {
	return f.of.put(append(text, '!'))
}

func (f both) put(text []byte) []byte {
	text = f.one.put(append(text, '('))
	text = f.two.put(append(text, '&'))
	return append(text, ')')
}

func (f may) put(text []byte) []byte {
	return f.then.put(append(text, '<', '0'+byte(f.label), '>'))
}

// depth returns how deep the labels of f are nested.
func depth(f formula) int {
	switch f := f.(type) {
	case not:
		return depth(f.of)
	case both:
		return max(depth(f.one), depth(f.two))
	case may:
		return 1 + depth(f.then)
	}
	return 0
}

// where returns the states at which f is true.
func (c *chart) where(f formula) small.Set {
	switch f := f.(type) {
	case not:
		return c.all() &^ c.where(f.of)
	case both:
		return c.where(f.one) & c.where(f.two)
	case may:
		return c.before(f.label, c.where(f.then))
	}
	return c.all()
}

// fault is the panic of a reader that meets what no formula has there.
type fault struct{}

// reader reads a text from at on.
type reader struct {
	text string
	at   int
}

// read returns the formula that text is, ErrLong if text is too long, or ErrFormula if it is none.
func read(text string) (f formula, e api.Errno) {
	if len(text) > mostBytes {
		return nil, api.ErrLong
	}
	defer func() {
		if recover() != nil {
			f, e = nil, api.ErrFormula
		}
	}()
	r := &reader{text: text}
	f = r.formula()
	if r.at < len(text) {
		panic(fault{})
	}
	return f, api.OK
}

// next reads a byte.
func (r *reader) next() byte {
	if r.at == len(r.text) {
		panic(fault{})
	}
	r.at++
	return r.text[r.at-1]
}

// expect reads a byte that is to be c.
func (r *reader) expect(c byte) {
	if r.next() != c {
		panic(fault{})
	}
}

// formula reads a formula.
func (r *reader) formula() formula {
	switch r.next() {
	case 'T':
		return truth{}
	case '!':
		return not{of: r.formula()}
	case '(':
		one := r.formula()
		r.expect('&')
		two := r.formula()
		r.expect(')')
		return both{one: one, two: two}
	case '<':
		label := r.digit()
		r.expect('>')
		return may{label: label, then: r.formula()}
	}
	panic(fault{})
}

// digit reads a digit.
func (r *reader) digit() int {
	c := r.next()
	if c < '0' || c > '9' {
		panic(fault{})
	}
	return int(c - '0')
}

// Depth returns the depth of a formula.
func Depth(formula string) (int, api.Errno) {
	f, e := read(formula)
	if e != api.OK {
		return 0, e
	}
	return depth(f), api.OK
}

// Holds reports whether the formula is true at p.
func Holds(s System, p int, formula string) (bool, api.Errno) {
	c, e := lay(s)
	if e != api.OK {
		return false, e
	}
	if !c.has(p) {
		return false, api.ErrArg
	}
	f, e := read(formula)
	if e != api.OK {
		return false, e
	}
	return c.where(f).Has(p), api.OK
}

// Where returns the states at which the formula is true.
func Where(s System, formula string) ([]int, api.Errno) {
	c, e := lay(s)
	if e != api.OK {
		return nil, e
	}
	f, e := read(formula)
	if e != api.OK {
		return nil, e
	}
	return c.where(f).List(), api.OK
}
