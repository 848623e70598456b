package tree

import (
	"slices"
	"strconv"

	"leatwork/api"
)

// Text returns the text of a tree.
func Text(t api.Tree) (string, api.Errno) {
	if !Valid(t) {
		return "", api.ErrForm
	}
	return textOfLeast(least(t))
}

// textOfLeast returns the text of a tree that is given by its least graph.
func textOfLeast(t api.Tree) (string, api.Errno) {
	w := &writer{nodes: t.Nodes, open: map[int]bool{}}
	w.node(t.Root)
	if w.full() {
		return "", api.ErrLong
	}
	return string(w.text), api.OK
}

// writer writes the text of a least graph.
type writer struct {
	nodes []api.Node
	text  []byte
	open  map[int]bool // the tuples that are being written: whether they were met within themselves
}

// full reports whether the text is too long already; then the rest of it is left out, as it may be of any length.
func (w *writer) full() bool {
	return len(w.text) > api.MaxText
}

func (w *writer) add(s string) {
	w.text = append(w.text, s...)
}

func (w *writer) node(n int) {
	if w.full() {
		return
	}
	node := w.nodes[n]
	if node.Kind != api.Tuple {
		w.add(leafText(node))
		return
	}
	if _, within := w.open[n]; within {
		w.open[n] = true
		w.add("@" + strconv.Itoa(n))
		return
	}
	w.tuple(n)
}

// tuple writes a tuple, and then puts its number before it if it was needed.
func (w *writer) tuple(n int) {
	start := len(w.text)
	w.open[n] = false
	w.body(w.nodes[n])
	if w.open[n] {
		w.text = slices.Insert(w.text, start, []byte(strconv.Itoa(n)+"=")...)
	}
	delete(w.open, n)
}

func (w *writer) body(node api.Node) {
	between := " "
	if isPair(node) {
		between = "|"
	} else {
		w.add(node.Label)
	}
	w.add("(")
	for i, a := range node.Args {
		if i > 0 {
			w.add(between)
		}
		w.node(a)
	}
	w.add(")")
}

// isPair reports whether a tuple is written with its label between its arguments.
func isPair(node api.Node) bool {
	return node.Label == "|" && len(node.Args) == 2
}

func leafText(node api.Node) string {
	switch node.Kind {
	case api.Int:
		return strconv.Itoa(node.Int)
	case api.Atom:
		return node.Label
	case api.Name:
		return "<" + node.Label + " " + strconv.Itoa(node.Int) + ">"
	}
	return "_" + strconv.Itoa(node.Int)
}
