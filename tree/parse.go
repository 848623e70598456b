package tree

import (
	"strconv"

	"leatwork/api"
)

// Parse reads the text of a tree.
func Parse(s string) (api.Tree, api.Errno) {
	if len(s) > api.MaxText {
		return api.Tree{}, api.ErrLong
	}
	t, ok := read(s)
	if !ok || !Valid(t) {
		return api.Tree{}, api.ErrForm
	}
	out := least(t)
	// The reader takes more than what Text writes, such as leading zeros and numbers of nodes that are not theirs.
	if text, e := textOfLeast(out); e != api.OK || text != s {
		return api.Tree{}, api.ErrForm
	}
	return out, api.OK
}

// read returns a graph that has the text s, if there is one.
func read(s string) (api.Tree, bool) {
	r := &reader{text: s, open: map[int]int{}}
	root, ok := r.node()
	if !ok || r.at < len(s) {
		return api.Tree{}, false
	}
	return api.Tree{Nodes: r.nodes, Root: root}, true
}

// reader reads a text. Its methods that read a node return its number and whether there was one.
type reader struct {
	text  string
	at    int
	nodes []api.Node
	open  map[int]int // by the number before it: the node of a tuple that is being read
}

// next returns the byte that comes next, or 0 at the end; no text has a byte 0.
func (r *reader) next() byte {
	if r.at < len(r.text) {
		return r.text[r.at]
	}
	return 0
}

// skip passes over the byte c, if it comes next.
func (r *reader) skip(c byte) bool {
	if r.at == len(r.text) || r.text[r.at] != c {
		return false
	}
	r.at++
	return true
}

// add adds a node, whose arguments may follow later, and returns its number.
func (r *reader) add(n api.Node) int {
	r.nodes = append(r.nodes, n)
	return len(r.nodes) - 1
}

func (r *reader) node() (int, bool) {
	switch c := r.next(); {
	case c == '-' || isDigit(c):
		return r.numberOrMarked()
	case c == '_':
		return r.variable()
	case c == '<':
		return r.name()
	case c == '@':
		return r.back()
	}
	return r.plain()
}

// numberOrMarked reads an integer, or a tuple with its number before it.
func (r *reader) numberOrMarked() (int, bool) {
	n, ok := r.number()
	if !ok {
		return 0, false
	}
	if r.skip('=') {
		return r.marked(n)
	}
	return r.add(api.Node{Kind: api.Int, Int: n}), true
}

// number reads digits, with or without a minus sign.
func (r *reader) number() (int, bool) {
	start := r.at
	r.skip('-')
	for isDigit(r.next()) {
		r.at++
	}
	n, err := strconv.Atoi(r.text[start:r.at])
	return n, err == nil
}

// marked reads a tuple to which back leads by its number.
func (r *reader) marked(number int) (int, bool) {
	r.open[number] = len(r.nodes)
	n, ok := r.plain()
	delete(r.open, number)
	return n, ok
}

func (r *reader) back() (int, bool) {
	r.skip('@')
	number, ok := r.number()
	if !ok {
		return 0, false
	}
	n, ok := r.open[number]
	return n, ok
}

func (r *reader) variable() (int, bool) {
	r.skip('_')
	n, ok := r.number()
	if !ok {
		return 0, false
	}
	return r.add(api.Node{Kind: api.Free, Int: n}), true
}

func (r *reader) name() (int, bool) {
	r.skip('<')
	label := r.label()
	if !r.skip(' ') {
		return 0, false
	}
	n, ok := r.number()
	if !ok || !r.skip('>') {
		return 0, false
	}
	return r.add(api.Node{Kind: api.Name, Int: n, Label: label}), true
}

// plain reads an atom, or a tuple without a number before it; its node is the first one that is added.
func (r *reader) plain() (int, bool) {
	if r.skip('(') {
		return r.tuple("|", '|')
	}
	label := r.label()
	if r.skip('(') {
		return r.tuple(label, ' ')
	}
	return r.add(api.Node{Kind: api.Atom, Label: label}), true
}

// label reads what may be an atom: Valid tells later whether it is one.
func (r *reader) label() string {
	start := r.at
	if !r.skip('|') && !r.skip('#') {
		for isWordByte(r.next()) {
			r.at++
		}
	}
	return r.text[start:r.at]
}

// tuple reads arguments with a byte between them, and the parenthesis that ends them.
func (r *reader) tuple(label string, between byte) (int, bool) {
	n := r.add(api.Node{Kind: api.Tuple, Label: label})
	var args []int
	for {
		a, ok := r.node()
		if !ok {
			return 0, false
		}
		args = append(args, a)
		if !r.skip(between) {
			break
		}
	}
	r.nodes[n].Args = args
	return n, r.skip(')')
}
