package store_test

import (
	"math/rand"
	"slices"
	"testing"

	"leatwork/api"
	"leatwork/store"
	"leatwork/tree"
)

func TestRepAndValue(t *testing.T) {
	s := built(t, variable(), variable(), variable(), tuple("f", 2, 1, 0), integer(7), variable(), tuple("f", 4, 1, 2))
	for _, q := range []equation{{0, 2}, {1, 5}, {0, 4}} {
		unify(t, s, q[0], q[1])
	}
	if got := reps(t, s); !slices.Equal(got, []int{4, 1, 4, 3, 4, 1, 6}) {
		t.Errorf("the representatives are %v", got)
	}
	for n, want := range []api.Node{integer(7), {Kind: api.Free, Int: 1}, integer(7), tuple("f", 4, 1, 4), integer(7), {Kind: api.Free, Int: 1}, tuple("f", 4, 1, 4)} {
		if got := value(t, s, n); !sameFace(got, want) || !slices.Equal(got.Args, want.Args) {
			t.Errorf("Value(%d) = %v, want %v", n, got, want)
		}
	}
	unify(t, s, 6, 3)
	if got := value(t, s, 6); !slices.Equal(got.Args, []int{4, 1, 4}) || reps(t, s)[6] != 3 {
		t.Errorf("Value(6) = %v", got)
	}
}

func TestLookArguments(t *testing.T) {
	for _, s := range []*store.Store{store.New(), built(t, variable(), atom("a"))} {
		for _, n := range []int{-1, s.Size(), s.Size() + 1, -1 << 63, 1<<63 - 1} {
			if r, e := s.Rep(n); e != api.ErrArg || r != 0 {
				t.Errorf("Rep(%d) = %d, %d", n, r, e)
			}
			if v, e := s.Value(n); e != api.ErrArg || !sameFace(v, api.Node{}) || len(v.Args) > 0 {
				t.Errorf("Value(%d) = %v, %d", n, v, e)
			}
			if x, e := s.Tree(n); e != api.ErrArg || len(x.Nodes) > 0 || x.Root != 0 {
				t.Errorf("Tree(%d) = %v, %d", n, x, e)
			}
			if l, e := s.Free(n); e != api.ErrArg || len(l) > 0 {
				t.Errorf("Free(%d) = %v, %d", n, l, e)
			}
		}
	}
}

func TestTreeAndFree(t *testing.T) {
	s := built(t,
		variable(), variable(), variable(), // 0 to 2
		atom("a"), integer(3), name("port", 0), // 3 to 5
		tuple("f", 2, 0, 1), tuple("g", 6, 6), tuple("f", 2, 0, 1), tuple("h", 6, 8), // 6 to 9
		variable(), tuple("k", 10, 12), variable(), tuple("k", 3, 5)) // 10 to 13
	check := func(n int, want string, vars ...int) {
		t.Helper()
		if got, l := text(t, s, n), free(t, s, n); got != want || !slices.Equal(l, vars) {
			t.Errorf("node %d: Tree %s, Free %v, want %s, %v", n, got, l, want, vars)
		}
	}
	check(0, "_0", 0)
	check(3, "a")
	check(4, "3")
	check(5, "<port 0>")
	check(6, "f(_2 _0 _1)", 0, 1, 2)
	check(9, "h(f(_2 _0 _1) f(_2 _0 _1))", 0, 1, 2)
	if x := treeOf(t, s, 9); len(x.Nodes) != 5 { // nodes that denote the same are one node of the tree
		t.Errorf("Tree(9) = %v", x)
	}
	unify(t, s, 1, 2)
	check(2, "_1", 1)
	check(7, "g(f(_1 _0 _1) f(_1 _0 _1))", 0, 1)
	unify(t, s, 0, 4)
	check(0, "3")
	check(9, "h(f(_1 3 _1) f(_1 3 _1))", 1)
	unify(t, s, 11, 12)
	check(11, "0=k(_10 @0)", 10)
	unify(t, s, 10, 12)
	check(10, "0=k(@0 @0)")
	unify(t, s, 2, 9)
	check(1, "0=h(f(@0 3 @0) f(@0 3 @0))")
	if x := treeOf(t, s, 8); len(x.Nodes) != 3 || x.Root != 0 {
		t.Errorf("Tree(8) = %v", x)
	}
}

// The tree of a node is the least graph of what its representatives are, and its variables are those of Free.
func TestTreeAsValues(t *testing.T) {
	r := rand.New(rand.NewSource(21))
	for range 3000 {
		nodes := randomNodes(r, 9)
		s, m := settled(t, r, nodes, 4)
		for n := range nodes {
			x := api.Tree{Root: n}
			for i := range nodes {
				v := nodes[m.rep(i)]
				if v.Kind == api.Free {
					v.Int = m.rep(i)
				}
				x.Nodes = append(x.Nodes, v)
			}
			got, want := treeOf(t, s, n), least(t, x)
			if !equalTrees(got, want) {
				t.Fatalf("%v: Tree(%d) = %v, want %v", nodes, n, got, want)
			}
			if l := free(t, s, n); !slices.Equal(l, variables(want)) {
				t.Fatalf("%v: Free(%d) = %v, want %v", nodes, n, l, variables(want))
			}
		}
	}
}

// variables are the numbers of the variables of a least graph, rising.
func variables(x api.Tree) []int {
	var out []int
	for _, n := range x.Nodes {
		if n.Kind == api.Free {
			out = append(out, n.Int)
		}
	}
	slices.Sort(out)
	return out
}

func least(t testing.TB, x api.Tree) api.Tree {
	t.Helper()
	out, e := tree.Least(x)
	if e != api.OK {
		t.Fatalf("Least(%v): error %d", x, e)
	}
	return out
}

// equalTrees reports whether two graphs are equal, node by node.
func equalTrees(a, b api.Tree) bool {
	return a.Root == b.Root && slices.EqualFunc(a.Nodes, b.Nodes, func(x, y api.Node) bool {
		return sameFace(x, y) && slices.Equal(x.Args, y.Args)
	})
}

// P2.6: Tree of Add of a tree is that tree, but for the numbers of variables, of which different ones stay different.
func TestTreeOfAdd(t *testing.T) {
	r := rand.New(rand.NewSource(22))
	s := store.New()
	for range 3000 {
		x := api.Tree{Nodes: randomNodes(r, 8)}
		x.Root = r.Intn(len(x.Nodes))
		for i := range x.Nodes {
			if x.Nodes[i].Kind == api.Free {
				x.Nodes[i].Int = r.Intn(4)
			}
		}
		if s.Size() > 5000 {
			s = store.New()
		}
		at, e := s.Add(x)
		if e != api.OK {
			t.Fatalf("Add(%v): error %d", x, e)
		}
		got, want := treeOf(t, s, at), least(t, x)
		number := map[int]int{}
		for i, n := range want.Nodes {
			if n.Kind == api.Free {
				number[n.Int] = at + i // as many new variables, in the order of the least graph
			}
		}
		for i, n := range want.Nodes {
			if n.Kind == api.Free {
				want.Nodes[i].Int = number[n.Int]
			}
		}
		if !equalTrees(got, want) {
			t.Fatalf("Tree of Add(%v) = %v, want %v", x, got, want)
		}
	}
}

func TestTreeOfAddExamples(t *testing.T) {
	for _, x := range []string{"a", "-12", "<proc 3>", "f(f(a))", "0=f(@0)", "(1|(2|nil))", "g(h(1) h(1))", "h(1=f(g(@1)) 2=g(f(@2)))", "|(7)", "#(# <cell 1> <cell 2>)"} {
		s := built(t, variable(), atom("a"))
		n, e := s.Add(parsed(t, x))
		if e != api.OK || text(t, s, n) != x {
			t.Errorf("Tree of Add of %s is %s, %d", x, text(t, s, n), e)
		}
	}
	// Of different trees, what is added is different; of the same one, entailed to be equal.
	s := store.New()
	a, _ := s.Add(parsed(t, "0=f(@0 1)"))
	b, _ := s.Add(parsed(t, "0=f(@0 1)"))
	c, _ := s.Add(parsed(t, "0=f(@0 2)"))
	if k, _ := test(t, s, a, b); k != 1 {
		t.Errorf("Test of the same tree = %d", k)
	}
	if k, _ := test(t, s, a, c); k != 0 {
		t.Errorf("Test of different trees = %d", k)
	}
}
