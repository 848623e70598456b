package tree

import (
	"slices"

	"leatwork/api"
)

// face is what can be seen of a node without its arguments.
type face struct {
	kind, number, arity int
	label               string
}

// signature is the classes of a node's arguments. Places behind the last one contain 0, which does no harm: it is compared only within a class, whose nodes have equally many arguments.
type signature [api.MaxArity]int

// division divides nodes into classes. Nodes of different classes denote different trees.
type division struct {
	nodes   []api.Node
	above   [][]int // of each node the tuples that have it as an argument
	class   []int   // of each node
	size    []int   // of each class: how many nodes it has
	members [][]int // of each class its nodes, and perhaps some that have left it
}

// newDivision divides nodes by their faces.
func newDivision(nodes []api.Node) *division {
	d := &division{nodes: nodes, above: make([][]int, len(nodes)), class: make([]int, len(nodes))}
	for i, n := range nodes {
		for _, a := range n.Args {
			d.above[a] = append(d.above[a], i)
		}
	}
	for _, group := range grouped(d.all(), d.face) {
		d.found(group)
	}
	return d
}

func (d *division) all() []int {
	out := make([]int, len(d.nodes))
	for i := range out {
		out[i] = i
	}
	return out
}

func (d *division) face(n int) face {
	node := d.nodes[n]
	return face{node.Kind, node.Int, len(node.Args), node.Label}
}

func (d *division) classOf(n int) int {
	return d.class[n]
}

func (d *division) signature(n int) signature {
	var s signature
	for i, a := range d.nodes[n].Args {
		s[i] = d.class[a]
	}
	return s
}

// found makes a class of nodes.
func (d *division) found(group []int) {
	for _, n := range group {
		d.class[n] = len(d.size)
	}
	d.size = append(d.size, len(group))
	d.members = append(d.members, group)
}

// settle divides classes until the nodes of each one have arguments of the same classes, and returns the class of each node.
func (d *division) settle() []int {
	touched := d.all()
	for len(touched) > 0 {
		touched = d.tuplesAbove(d.divide(touched))
	}
	return d.class
}

// divide divides classes by the signatures of their nodes, and returns the nodes that are in a new class now. Within a class only touched nodes may have another signature than the rest, and they all do so. The largest part of a class stays: a node moves only to a class of at most half the size, which happens to it few times.
func (d *division) divide(touched []int) []int {
	var parts [][][]int // of each class its groups: all signatures are of the classes as they were
	for _, ofClass := range grouped(touched, d.classOf) {
		parts = append(parts, grouped(ofClass, d.signature))
	}
	var moved []int
	for _, groups := range parts {
		from := d.class[groups[0][0]]
		for _, group := range d.leaving(from, groups) {
			d.size[from] -= len(group)
			d.found(group)
			moved = append(moved, group...)
		}
	}
	return moved
}

// grouped returns nodes grouped by their keys, in the order in which these are met.
func grouped[K comparable](nodes []int, key func(n int) K) [][]int {
	var groups [][]int
	known := map[K]int{}
	for _, n := range nodes {
		k := key(n)
		g, met := known[k]
		if !met {
			g = len(groups)
			known[k] = g
			groups = append(groups, nil)
		}
		groups[g] = append(groups[g], n)
	}
	return groups
}

// leaving returns all parts of a class but the largest one; its parts are the groups, and the rest, which is in none of them.
func (d *division) leaving(class int, groups [][]int) [][]int {
	largest, rest := 0, d.size[class]
	for i, group := range groups {
		rest -= len(group)
		if len(group) > len(groups[largest]) {
			largest = i
		}
	}
	if rest >= len(groups[largest]) {
		return groups
	}
	stays := groups[largest]
	if rest > 0 {
		groups[largest] = d.rest(class, groups)
	} else {
		groups = slices.Delete(groups, largest, largest+1)
	}
	d.members[class] = stays
	return groups
}

// rest returns the nodes of a class that are in none of the groups.
func (d *division) rest(class int, groups [][]int) []int {
	taken := map[int]bool{}
	for _, group := range groups {
		for _, n := range group {
			taken[n] = true
		}
	}
	var out []int
	for _, n := range d.members[class] {
		if d.class[n] == class && !taken[n] {
			out = append(out, n)
		}
	}
	return out
}

// tuplesAbove returns the tuples that have one of the nodes as an argument, each one once.
func (d *division) tuplesAbove(nodes []int) []int {
	var out []int
	met := map[int]bool{}
	for _, n := range nodes {
		for _, t := range d.above[n] {
			if !met[t] {
				met[t] = true
				out = append(out, t)
			}
		}
	}
	return out
}
