package tree_test

import (
	"math/rand"
	"testing"

	"leatwork/api"
	"leatwork/tree"
)

func TestLeastExamples(t *testing.T) {
	for _, x := range []struct{ in, want api.Tree }{
		{graph(tuple("f", 1), tuple("f", 2), atom("a")), graph(tuple("f", 1), tuple("f", 2), atom("a"))},
		{graph(tuple("f", 1), tuple("f", 0)), graph(tuple("f", 0))},
		{graph(tuple("g", 1, 2), tuple("h", 3), tuple("h", 4), integer(1), integer(1)), graph(tuple("g", 1, 1), tuple("h", 2), integer(1))},
		// The parts of the first argument are met before the second argument.
		{graph(tuple("f", 3, 1), tuple("g", 2), atom("a"), tuple("h", 4), atom("b")), graph(tuple("f", 1, 3), tuple("h", 2), atom("b"), tuple("g", 4), atom("a"))},
		// A part that was met is not gone into again.
		{graph(tuple("f", 1, 2, 1), tuple("g", 2), tuple("h", 1)), graph(tuple("f", 1, 2, 1), tuple("g", 2), tuple("h", 1))},
		{api.Tree{Nodes: []api.Node{variable(3), tuple("f", 2, 0), variable(3), variable(4)}, Root: 1}, graph(tuple("f", 1, 1), variable(3))},
		{graph(tuple("f", 1, 2, 3), name("cell", 1), name("port", 1), name("cell", 2)), graph(tuple("f", 1, 2, 3), name("cell", 1), name("port", 1), name("cell", 2))},
		// Of different kinds, with the same number or label.
		{graph(tuple("f", 1, 2, 3, 4), variable(1), integer(1), atom("f"), tuple("f", 2)), graph(tuple("f", 1, 2, 3, 4), variable(1), integer(1), atom("f"), tuple("f", 2))},
		// A cycle that is entered at different nodes, and one that is twice as long.
		{graph(tuple("f", 1, 3), tuple("g", 2), tuple("h", 1), tuple("g", 4), tuple("h", 5), tuple("g", 6), tuple("h", 3)), graph(tuple("f", 1, 1), tuple("g", 2), tuple("h", 1))},
		{graph(tuple("f", 1), tuple("f", 2), tuple("f", 0, 0)), graph(tuple("f", 1), tuple("f", 2), tuple("f", 0, 0))},
	} {
		if got := least(t, x.in); !equal(got, x.want) {
			t.Errorf("Least(%v) = %v, want %v", x.in, got, x.want)
		}
		if got := size(t, x.in); got != len(x.want.Nodes) {
			t.Errorf("Size(%v) = %d, want %d", x.in, got, len(x.want.Nodes))
		}
	}
}

// checkLeast checks that got is the least graph of x: the same tree, no two nodes that are the same, and the order of their numbers.
func checkLeast(t *testing.T, x, got api.Tree) {
	t.Helper()
	if !tree.Valid(got) || got.Root != 0 || !agreeAll(x, got) {
		t.Fatalf("Least(%v) = %v is not the same tree", x, got)
	}
	for i := range got.Nodes {
		for j := range i {
			if agreeAll(part(got, i), part(got, j)) {
				t.Fatalf("Least(%v) = %v: nodes %d and %d are the same", x, got, i, j)
			}
		}
	}
	met := 0
	var visit func(n int)
	visit = func(n int) {
		if n < met {
			return
		}
		if n > met {
			t.Fatalf("Least(%v) = %v: node %d is met before node %d", x, got, n, met)
		}
		met++
		for _, a := range got.Nodes[n].Args {
			visit(a)
		}
	}
	visit(got.Root)
	if met != len(got.Nodes) {
		t.Fatalf("Least(%v) = %v: the root does not lead to all nodes", x, got)
	}
}

// P1.1
func TestLeastIsLeast(t *testing.T) {
	r := rand.New(rand.NewSource(1))
	list := smallGraphs()
	for range 2000 {
		list = append(list, randomGraph(r, 7))
	}
	for _, x := range list {
		got := least(t, x)
		checkLeast(t, x, got)
		if size(t, x) != len(got.Nodes) {
			t.Fatalf("Size(%v) = %d, but Least has %d nodes", x, size(t, x), len(got.Nodes))
		}
		if !equal(least(t, got), got) {
			t.Fatalf("Least of Least of %v is another graph", x)
		}
	}
}

// copies returns the same tree as x, with several nodes for each one of x; arguments lead to any of them.
func copies(r *rand.Rand, x api.Tree, times int) api.Tree {
	out := api.Tree{Root: x.Root}
	for range times {
		for _, n := range clone(x).Nodes {
			for i := range n.Args {
				n.Args[i] += len(x.Nodes) * r.Intn(times)
			}
			out.Nodes = append(out.Nodes, n)
		}
	}
	return out
}

// sparse returns a graph of count tuples, all but few of which look alike.
func sparse(r *rand.Rand, count int) api.Tree {
	var x api.Tree
	for range count {
		n := tuple("f", r.Intn(count))
		if r.Intn(count) < 2 {
			n.Label = "g"
		}
		if r.Intn(3) == 0 {
			n.Args = append(n.Args, r.Intn(count))
		}
		x.Nodes = append(x.Nodes, n)
	}
	return x
}

// P1.1 and P1.7: the classes of equal nodes are large, and are divided in many rounds.
func TestLeastOfCopies(t *testing.T) {
	r := rand.New(rand.NewSource(7))
	for range 300 {
		x := sparse(r, 1+r.Intn(40))
		got := least(t, x)
		checkLeast(t, x, got)
		if y := mixed(r, copies(r, x, 2+r.Intn(6))); !equal(least(t, y), got) || !same(t, x, y) {
			t.Fatalf("%v and %v: not the same", x, y)
		}
	}
	ring := chain(500, tuple("g", 0))
	if !equal(least(t, copies(r, ring, 15)), ring) {
		t.Error("copies of a ring are not the same")
	}
}

// P1.1: trees are the same exactly if their least graphs are equal.
func TestLeastTellsSame(t *testing.T) {
	list := smallGraphs()
	for i := 0; i < len(list); i += 3 {
		for _, y := range list {
			want := agreeAll(list[i], y)
			if equal(least(t, list[i]), least(t, y)) != want || same(t, list[i], y) != want {
				t.Fatalf("%v and %v: they are the same: %t", list[i], y, want)
			}
		}
	}
}

// P1.2
func TestSameIsEquivalence(t *testing.T) {
	r := rand.New(rand.NewSource(2))
	for range 20000 {
		a, b, c := randomGraph(r, 3), randomGraph(r, 3), randomGraph(r, 3)
		ab := same(t, a, b)
		if !same(t, a, a) || ab != same(t, b, a) || ab != agreeAll(a, b) {
			t.Fatalf("Same(%v, %v) = %t", a, b, ab)
		}
		if ab && same(t, b, c) && !same(t, a, c) {
			t.Fatalf("Same is not transitive: %v, %v, %v", a, b, c)
		}
	}
}

// P1.2: parts of the same trees at the same places are the same.
func TestSameParts(t *testing.T) {
	r := rand.New(rand.NewSource(3))
	for range 2000 {
		x := randomGraph(r, 6)
		y := mixed(r, x)
		for depth := 0; depth < 8; depth++ {
			if !same(t, x, y) {
				t.Fatalf("Same(%v, %v) = false", x, y)
			}
			args := x.Nodes[x.Root].Args
			if len(args) == 0 {
				break
			}
			i := r.Intn(len(args))
			x, y = part(x, args[i]), part(y, y.Nodes[y.Root].Args[i])
		}
	}
}

// P1.6
func TestCyclic(t *testing.T) {
	r := rand.New(rand.NewSource(4))
	list := smallGraphs()
	for range 2000 {
		list = append(list, randomGraph(r, 7))
	}
	for _, x := range list {
		l, want := least(t, x), false
		for n, to := range reach(l) {
			want = want || to[n]
		}
		if cyclic(t, x) != want || cyclic(t, l) != want {
			t.Fatalf("Cyclic(%v) is not %t", x, want)
		}
	}
}

func TestCyclicExamples(t *testing.T) {
	for _, x := range []struct {
		in   api.Tree
		want bool
	}{
		{graph(atom("a")), false},
		{graph(atom("a"), tuple("f", 1)), false}, // the cycle is not reached
		{graph(tuple("f", 1, 1), tuple("f", 2, 2), atom("a")), false},
		{graph(tuple("f", 0)), true},
		{graph(tuple("f", 1, 2), atom("a"), tuple("g", 2)), true},
		{graph(tuple("f", 1, 2), tuple("g", 2), tuple("g", 3), tuple("h", 1)), true},
		{api.Tree{Nodes: []api.Node{tuple("f", 0), tuple("g", 2), integer(1)}, Root: 1}, false},
	} {
		if got := cyclic(t, x.in); got != x.want {
			t.Errorf("Cyclic(%v) = %t", x.in, got)
		}
	}
}

// P1.7
func TestRenumbered(t *testing.T) {
	r := rand.New(rand.NewSource(5))
	for range 3000 {
		x, z := randomGraph(r, 6), randomGraph(r, 6)
		y := mixed(r, x)
		if !equal(least(t, x), least(t, y)) || size(t, x) != size(t, y) || cyclic(t, x) != cyclic(t, y) {
			t.Fatalf("%v and %v: not the same results", x, y)
		}
		tx, ex := tree.Text(x)
		ty, ey := tree.Text(y)
		if tx != ty || ex != ey {
			t.Fatalf("Text: %q, %d and %q, %d", tx, ex, ty, ey)
		}
		if !same(t, x, y) || same(t, x, z) != same(t, y, z) || same(t, z, x) != same(t, z, y) {
			t.Fatalf("Same: %v and %v", x, y)
		}
		if compare(t, x, y) != 0 || compare(t, x, z) != compare(t, y, z) || compare(t, z, x) != compare(t, z, y) {
			t.Fatalf("Compare: %v and %v", x, y)
		}
		for depth := 0; depth <= 12; depth += 3 {
			if !equal(cut(t, x, depth), cut(t, y, depth)) {
				t.Fatalf("Cut: %v and %v", x, y)
			}
		}
	}
}

// chain is a graph of count nodes, each of which is f of the next one; the last one is given.
func chain(count int, last api.Node) api.Tree {
	var x api.Tree
	for i := range count - 1 {
		x.Nodes = append(x.Nodes, tuple("f", i+1))
	}
	x.Nodes = append(x.Nodes, last)
	return x
}

func TestLargeGraphs(t *testing.T) {
	const most = api.MaxNodes
	whole := chain(most, atom("a"))
	if n := size(t, whole); n != most || cyclic(t, whole) {
		t.Errorf("of a chain: Size = %d, or it is cyclic", n)
	}
	ring := chain(most, tuple("f", 0))
	if n := size(t, ring); n != 1 || !cyclic(t, ring) {
		t.Errorf("of a ring: Size = %d, or it is not cyclic", n)
	}
	odd := chain(most, tuple("g", 0))
	if n := size(t, odd); n != most || !cyclic(t, odd) {
		t.Errorf("of a ring with an odd node: Size = %d, or it is not cyclic", n)
	}
	// A ring of half the length is the same.
	twice := chain(most, tuple("g", 0))
	twice.Nodes[most/2-1].Label = "g"
	half := chain(most/2, tuple("g", 0))
	if n := size(t, twice); n != most/2 || !same(t, twice, half) || same(t, twice, odd) {
		t.Errorf("of a ring that goes twice: Size = %d, or it is not the same as one that goes once", n)
	}
	if same(t, whole, chain(most, atom("b"))) || same(t, whole, chain(most-1, atom("a"))) || !same(t, whole, clone(whole)) {
		t.Error("Same of chains")
	}
}

func TestLargeRandomGraphs(t *testing.T) {
	const count = api.MaxNodes - 3 // so many more are in a mixed graph, at most
	r := rand.New(rand.NewSource(6))
	var x api.Tree
	for range count {
		n := tuple("f")
		for range api.MaxArity {
			n.Args = append(n.Args, r.Intn(count))
		}
		x.Nodes = append(x.Nodes, n)
	}
	if n := size(t, x); n != 1 {
		t.Errorf("Size = %d, want 1", n)
	}
	x.Nodes[7] = atom("a")
	got, y := least(t, x), mixed(r, x)
	if !equal(got, least(t, y)) || !same(t, x, y) {
		t.Error("a mixed graph is not the same tree")
	}
	if !same(t, got, x) || len(got.Nodes) < count/2 {
		t.Errorf("Least has %d nodes, or is not the same", len(got.Nodes))
	}
}
