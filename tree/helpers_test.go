package tree_test

import (
	"math/rand"
	"reflect"
	"testing"

	"leatwork/api"
	"leatwork/tree"
)

func variable(n int) api.Node { return api.Node{Kind: api.Free, Int: n} }

func integer(n int) api.Node { return api.Node{Kind: api.Int, Int: n} }

func atom(a string) api.Node { return api.Node{Kind: api.Atom, Label: a} }

func tuple(label string, args ...int) api.Node {
	return api.Node{Kind: api.Tuple, Label: label, Args: args}
}

func name(label string, n int) api.Node { return api.Node{Kind: api.Name, Label: label, Int: n} }

func graph(nodes ...api.Node) api.Tree { return api.Tree{Nodes: nodes} }

func parsed(t testing.TB, s string) api.Tree {
	t.Helper()
	x, e := tree.Parse(s)
	if e != api.OK {
		t.Fatalf("Parse(%q): error %d", s, e)
	}
	return x
}

func least(t testing.TB, x api.Tree) api.Tree {
	t.Helper()
	out, e := tree.Least(x)
	if e != api.OK {
		t.Fatalf("Least(%v): error %d", x, e)
	}
	return out
}

func same(t testing.TB, a, b api.Tree) bool {
	t.Helper()
	ok, e := tree.Same(a, b)
	if e != api.OK {
		t.Fatalf("Same(%v, %v): error %d", a, b, e)
	}
	return ok
}

func compare(t testing.TB, a, b api.Tree) int {
	t.Helper()
	c, e := tree.Compare(a, b)
	if e != api.OK {
		t.Fatalf("Compare(%v, %v): error %d", a, b, e)
	}
	return c
}

func cut(t testing.TB, x api.Tree, depth int) api.Tree {
	t.Helper()
	out, e := tree.Cut(x, depth)
	if e != api.OK {
		t.Fatalf("Cut(%v, %d): error %d", x, depth, e)
	}
	return out
}

func text(t testing.TB, x api.Tree) string {
	t.Helper()
	s, e := tree.Text(x)
	if e != api.OK {
		t.Fatalf("Text(%v): error %d", x, e)
	}
	return s
}

func size(t testing.TB, x api.Tree) int {
	t.Helper()
	n, e := tree.Size(x)
	if e != api.OK {
		t.Fatalf("Size(%v): error %d", x, e)
	}
	return n
}

func cyclic(t testing.TB, x api.Tree) bool {
	t.Helper()
	ok, e := tree.Cyclic(x)
	if e != api.OK {
		t.Fatalf("Cyclic(%v): error %d", x, e)
	}
	return ok
}

// equal reports whether two graphs are equal; nil and empty slices are the same.
func equal(a, b api.Tree) bool { return reflect.DeepEqual(clone(a), clone(b)) }

// clone returns a copy that shares no memory with x.
func clone(x api.Tree) api.Tree {
	out := api.Tree{Root: x.Root}
	for _, n := range x.Nodes {
		n.Args = append([]int(nil), n.Args...)
		out.Nodes = append(out.Nodes, n)
	}
	return out
}

// part is the part of x whose top is the node n.
func part(x api.Tree, n int) api.Tree { return api.Tree{Nodes: x.Nodes, Root: n} }

// smallGraphs are all graphs of one and two nodes over few labels, with each root.
func smallGraphs() []api.Tree {
	var out []api.Tree
	one := choices(1)
	for _, n := range one {
		out = append(out, graph(n))
	}
	two := choices(2)
	for _, n := range two {
		for _, m := range two {
			out = append(out, graph(n, m), api.Tree{Nodes: []api.Node{n, m}, Root: 1})
		}
	}
	return out
}

// choices are nodes for graphs of count nodes.
func choices(count int) []api.Node {
	out := []api.Node{variable(0), variable(1), integer(1), atom("a"), atom("|"), name("cell", 0), name("proc", 0)}
	for i := range count {
		out = append(out, tuple("f", i), tuple("|", i))
		for j := range count {
			out = append(out, tuple("f", i, j), tuple("|", i, j))
		}
	}
	return out
}

// randomGraph returns a graph of 1 to most nodes over few labels, so that parts are often the same.
func randomGraph(r *rand.Rand, most int) api.Tree {
	count := 1 + r.Intn(most)
	x := api.Tree{Root: r.Intn(count)}
	for range count {
		x.Nodes = append(x.Nodes, randomNode(r, count))
	}
	return x
}

func randomNode(r *rand.Rand, count int) api.Node {
	switch r.Intn(12) {
	case 0:
		return variable(r.Intn(2))
	case 1:
		return integer(r.Intn(3) - 1)
	case 2:
		return atom([]string{"a", "nil"}[r.Intn(2)])
	case 3:
		return name([]string{"proc", "cell", "port"}[r.Intn(3)], r.Intn(2))
	}
	n := tuple([]string{"f", "f", "g", "|"}[r.Intn(4)])
	for range 1 + r.Intn(2) {
		n.Args = append(n.Args, r.Intn(count))
	}
	return n
}

// mixed returns x with its nodes in another order, and some nodes more to which the root does not lead.
func mixed(r *rand.Rand, x api.Tree) api.Tree {
	more := clone(x)
	for range r.Intn(4) {
		more.Nodes = append(more.Nodes, randomNode(r, len(x.Nodes)))
	}
	to := r.Perm(len(more.Nodes))
	out := api.Tree{Nodes: make([]api.Node, len(to)), Root: to[x.Root]}
	for i, n := range more.Nodes {
		for k, a := range n.Args {
			n.Args[k] = to[a]
		}
		out.Nodes[to[i]] = n
	}
	return out
}

// agree reports whether two trees agree down to some depth, as the terms of the document say it.
func agree(a, b api.Tree, depth int) bool {
	known := map[[3]int]bool{}
	var look func(x, y, depth int) bool
	look = func(x, y, depth int) bool {
		key := [3]int{x, y, depth}
		if ok, met := known[key]; met {
			return ok
		}
		n, m := a.Nodes[x], b.Nodes[y]
		ok := n.Kind == m.Kind && n.Int == m.Int && n.Label == m.Label && len(n.Args) == len(m.Args)
		if ok && depth > 0 {
			for i := range n.Args {
				ok = ok && look(n.Args[i], m.Args[i], depth-1)
			}
		}
		known[key] = ok
		return ok
	}
	return look(a.Root, b.Root, depth)
}

// agreeAll reports whether two trees agree everywhere: if they differ, they do so at a depth below their number of nodes.
func agreeAll(a, b api.Tree) bool { return agree(a, b, len(a.Nodes)+len(b.Nodes)) }

// reach returns which nodes lead to which ones by one argument or more.
func reach(x api.Tree) [][]bool {
	to := make([][]bool, len(x.Nodes))
	for i, n := range x.Nodes {
		to[i] = make([]bool, len(x.Nodes))
		for _, a := range n.Args {
			to[i][a] = true
		}
	}
	for k := range to {
		for i := range to {
			for j := range to {
				to[i][j] = to[i][j] || to[i][k] && to[k][j]
			}
		}
	}
	return to
}
