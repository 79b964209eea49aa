package same

import "minikin/api"

const (
	mostBytes   = 2000 // bytes of a term
	mostLevels  = 20   // levels of a term
	mostLetters = 8    // letters of a name
	mostParts   = 4    // terms in the brackets of a name
)

// node is a term: its name, which for a variable is its letter, and the numbers of the nodes that are its parts.
type node struct {
	name  string
	count int
	parts [mostParts]int
}

// variable reports whether n is one.
func (n node) variable() bool {
	return n.name[0] <= 'Z'
}

// under returns the numbers of n's parts.
func (n *node) under() []int {
	return n.parts[:n.count]
}

// stock keeps terms as shared nodes: each term is there once, and its parts have lesser numbers.
type stock struct {
	nodes  []node
	number map[node]int
	counts map[string]int // how many parts each name has
	uneven bool           // whether a name has different numbers of parts
}

func newStock() *stock {
	return &stock{number: map[node]int{}, counts: map[string]int{}}
}

// add returns the number of a term, which is new or not.
func (s *stock) add(n node) int {
	if x, ok := s.number[n]; ok {
		return x
	}
	count, ok := s.counts[n.name]
	if !ok {
		s.counts[n.name] = n.count
	} else if count != n.count {
		s.uneven = true
	}
	x := len(s.nodes)
	s.nodes = append(s.nodes, n)
	s.number[n] = x
	return x
}

// write returns text with the term x after it.
func (s *stock) write(text []byte, x int) []byte {
	n := &s.nodes[x]
	text = append(text, n.name...)
	mark := byte('(')
	for _, part := range n.under() {
		text = s.write(append(text, mark), part)
		mark = ','
	}
	if n.count > 0 {
		text = append(text, ')')
	}
	return text
}

// text returns the term x as a string.
func (s *stock) text(x int) string {
	return string(s.write(nil, x))
}

// fit returns ErrLong if one of the terms has too many bytes, or ErrTerm if one has too many levels.
func (s *stock) fit(terms []int) api.Errno {
	bytes := make([]int, len(s.nodes)) // of longer terms just one more than the most, since substitutions make them very long
	levels := make([]int, len(s.nodes))
	for x, n := range s.nodes {
		bytes[x] = len(n.name)
		if n.count > 0 {
			bytes[x] += n.count + 1
		}
		for _, part := range n.under() {
			bytes[x] = min(bytes[x]+bytes[part], mostBytes+1)
			levels[x] = max(levels[x], levels[part])
		}
		levels[x]++
	}
	e := api.OK
	for _, x := range terms {
		if bytes[x] > mostBytes {
			return api.ErrLong
		}
		if levels[x] > mostLevels {
			e = api.ErrTerm
		}
	}
	return e
}

// readAll reads terms, with variables if free says so, and returns their numbers.
func (s *stock) readAll(texts []string, free bool) ([]int, api.Errno) {
	var out []int
	for _, text := range texts {
		x, e := s.read(text, free)
		if e != api.OK {
			return nil, e
		}
		out = append(out, x)
	}
	if s.uneven {
		return nil, api.ErrArity
	}
	return out, api.OK
}

// read reads a term, and returns its number.
func (s *stock) read(text string, free bool) (x int, e api.Errno) {
	if len(text) > mostBytes {
		return 0, api.ErrLong
	}
	defer func() {
		if recover() != nil {
			x, e = 0, api.ErrTerm
		}
	}()
	r := &reader{stock: s, free: free}
	for _, c := range text {
		r.take(c)
	}
	x = r.term()
	need(len(r.open) == 0)
	return x, api.OK
}

// fault is the panic of a reader that meets what no term has there.
type fault struct{}

func need(ok bool) {
	if !ok {
		panic(fault{})
	}
}

// reader reads a term from its first letter to its last.
type reader struct {
	stock *stock
	free  bool   // whether variables may stand
	open  []node // the terms whose brackets are open, with the parts that are complete
	name  []byte // the letters of the name that is being read
	ended bool   // whether a term with brackets, or a variable, was just read: last
	last  int
}

func (r *reader) take(c rune) {
	switch {
	case c >= 'a' && c <= 'z':
		need(!r.ended && len(r.name) < mostLetters)
		r.name = append(r.name, byte(c))
	case c >= 'A' && c <= 'Z':
		need(r.free && !r.ended && len(r.name) == 0)
		r.end(node{name: string(c)})
	case c == '(':
		need(len(r.name) > 0 && len(r.open) < mostLevels-1)
		r.open = append(r.open, node{name: string(r.name)})
		r.name = nil
	case c == ',':
		r.part()
	case c == ')':
		r.part()
		top := len(r.open) - 1
		r.end(r.open[top])
		r.open = r.open[:top]
	default:
		panic(fault{})
	}
}

// end notes that a term was read.
func (r *reader) end(n node) {
	r.last, r.ended = r.stock.add(n), true
}

// term returns the term that was just read.
func (r *reader) term() int {
	if len(r.name) > 0 {
		r.end(node{name: string(r.name)})
		r.name = nil
	}
	need(r.ended)
	r.ended = false
	return r.last
}

// part puts the term that was just read into the brackets that were opened last.
func (r *reader) part() {
	x := r.term()
	need(len(r.open) > 0)
	top := &r.open[len(r.open)-1]
	need(top.count < mostParts)
	top.parts[top.count] = x
	top.count++
}

// isName reports whether text is a name.
func isName(text string) bool {
	for _, c := range text {
		if c < 'a' || c > 'z' {
			return false
		}
	}
	return len(text) > 0 && len(text) <= mostLetters
}
