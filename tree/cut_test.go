package tree_test

import (
	"math/rand"
	"testing"

	"leatwork/api"
	"leatwork/tree"
)

func TestCutExamples(t *testing.T) {
	for _, x := range []struct {
		in    string
		depth int
		want  string
	}{
		{"f(f(a))", 0, "cut"},
		{"f(f(a))", 1, "f(cut)"},
		{"f(f(a))", 2, "f(f(a))"},
		{"f(f(a))", 12, "f(f(a))"},
		{"0=f(@0)", 0, "cut"},
		{"0=f(@0)", 3, "f(f(f(cut)))"},
		{"0=f(@0)", 12, "f(f(f(f(f(f(f(f(f(f(f(f(cut))))))))))))"},
		{"a", 0, "a"},
		{"-5", 0, "-5"},
		{"_3", 0, "_3"},
		{"<cell 2>", 0, "<cell 2>"},
		{"cut", 0, "cut"},
		{"(1|(2|nil))", 1, "(1|cut)"},
		{"g(h(1) h(1))", 1, "g(cut cut)"},
		{"f(g(1) 2 <port 1> _4 g)", 1, "f(cut 2 <port 1> _4 g)"},
		{"f(g(h(1)) h(1))", 2, "f(g(cut) h(1))"}, // one part at two depths
		{"f(cut g(a))", 1, "f(cut cut)"},
	} {
		if got := cut(t, parsed(t, x.in), x.depth); !equal(got, parsed(t, x.want)) {
			t.Errorf("Cut(%s, %d) = %v, want %s", x.in, x.depth, got, x.want)
		}
	}
}

func TestCutDepth(t *testing.T) {
	x := parsed(t, "0=f(@0)")
	for _, depth := range []int{-1, 13, -1 << 63, 1<<63 - 1} {
		if got, e := tree.Cut(x, depth); e != api.ErrArg || !equal(got, api.Tree{}) {
			t.Errorf("Cut at %d = %v, %d", depth, got, e)
		}
	}
}

// cutOff is the tree without what is below a depth, node by node.
func cutOff(x api.Tree, depth int) api.Tree {
	var out api.Tree
	var visit func(n, left int) int
	visit = func(n, left int) int {
		at := len(out.Nodes)
		out.Nodes = append(out.Nodes, x.Nodes[n])
		if x.Nodes[n].Kind != api.Tuple {
			return at
		}
		if left == 0 {
			out.Nodes[at] = atom("cut")
			return at
		}
		var args []int
		for _, a := range x.Nodes[n].Args {
			args = append(args, visit(a, left-1))
		}
		out.Nodes[at].Args = args
		return at
	}
	visit(x.Root, depth)
	return out
}

func TestCutOfRandomTrees(t *testing.T) {
	r := rand.New(rand.NewSource(21))
	for range 1000 {
		x := randomGraph(r, 6)
		for depth := range 10 {
			got := cut(t, x, depth)
			checkLeast(t, cutOff(x, depth), got)
			if cyclic(t, got) {
				t.Fatalf("Cut(%v, %d) is cyclic", x, depth)
			}
		}
	}
}

// P1.4: trees of few nodes that differ do so within depth 12. (The atom cut does not occur in them.)
func TestCutsTellSame(t *testing.T) {
	r := rand.New(rand.NewSource(22))
	for range 5000 {
		a, b := randomGraph(r, 4), randomGraph(r, 4)
		if r.Intn(3) == 0 {
			b = mixed(r, a)
		}
		all := true
		for depth := 0; depth <= 12; depth++ {
			equalCuts := same(t, cut(t, a, depth), cut(t, b, depth))
			if equalCuts && !all {
				t.Fatalf("%v and %v: cuts at %d are the same, but not at a lesser depth", a, b, depth)
			}
			all = all && equalCuts
		}
		if all != same(t, a, b) {
			t.Fatalf("%v and %v: cuts are the same: %t", a, b, all)
		}
	}
}

// P1.4: what is not cyclic is its own cut at a great depth.
func TestCutOfFiniteTrees(t *testing.T) {
	r := rand.New(rand.NewSource(23))
	finite := 0
	for range 5000 {
		x := randomGraph(r, 8) // not deeper than 12
		own := equal(cut(t, x, 12), least(t, x))
		if own == cyclic(t, x) {
			t.Fatalf("Cut(%v, 12) is its least graph: %t", x, own)
		}
		if own {
			finite++
		}
	}
	if finite < 100 {
		t.Errorf("only %d trees are finite", finite)
	}
	long := chain(14, atom("a"))
	if equal(cut(t, long, 12), long) || !equal(cut(t, chain(13, atom("a")), 12), chain(13, atom("a"))) {
		t.Error("Cut of chains")
	}
}

// crowded is a tree of count nodes; cut at depth 12 it has one more, as one of its tuples is met there and above.
func crowded(count int) api.Tree {
	x := chain(12, atom("a"))
	x.Nodes[0].Args = []int{1, 13, 14}
	x.Nodes[11] = tuple("f", 12)
	x.Nodes = append(x.Nodes, tuple("h", 13), atom("b"), tuple("g", 12, 15))
	for i := 15; i < count; i++ { // parents come before their eight arguments
		x.Nodes = append(x.Nodes, integer(i))
		parent := 15 + (i-16)/8
		if i > 15 {
			p := &x.Nodes[parent]
			p.Kind, p.Int, p.Label = api.Tuple, 0, "k"
			p.Args = append(p.Args, i)
		}
	}
	return x
}

func TestCutLimit(t *testing.T) {
	for _, x := range []struct {
		count int
		want  api.Errno
	}{{api.MaxNodes - 1, api.OK}, {api.MaxNodes, api.ErrFull}} {
		in := crowded(x.count)
		if n := size(t, in); n != x.count {
			t.Fatalf("Size = %d, want %d", n, x.count)
		}
		got, e := tree.Cut(in, 12)
		if e != x.want || e == api.OK && len(got.Nodes) != api.MaxNodes || e != api.OK && !equal(got, api.Tree{}) {
			t.Errorf("Cut of %d nodes: %d nodes, %d", x.count, len(got.Nodes), e)
		}
		if _, e := tree.Cut(in, 11); e != api.OK {
			t.Errorf("Cut at depth 11: %d", e)
		}
	}
}

func TestCutOfLargeGraph(t *testing.T) {
	r := rand.New(rand.NewSource(24))
	var x api.Tree
	for i := range api.MaxNodes / 2 {
		x.Nodes = append(x.Nodes, tuple("f", api.MaxNodes/2+i))
		for range api.MaxArity - 1 {
			x.Nodes[i].Args = append(x.Nodes[i].Args, r.Intn(api.MaxNodes/2))
		}
	}
	for i := range api.MaxNodes / 2 {
		x.Nodes = append(x.Nodes, integer(i))
	}
	if got, e := tree.Cut(x, 12); e != api.ErrFull || !equal(got, api.Tree{}) {
		t.Errorf("Cut: %d nodes, %d", len(got.Nodes), e)
	}
	for _, depth := range []int{-1, 13} { // ErrArg comes before ErrFull
		if _, e := tree.Cut(x, depth); e != api.ErrArg {
			t.Errorf("Cut at depth %d: %d", depth, e)
		}
	}
	// The root, 0, and, if no two are the same, seven tuples, their integers, and cut.
	if got := cut(t, x, 2); len(got.Nodes) != 1+1+7+7+1 {
		t.Errorf("Cut: %d nodes", len(got.Nodes))
	}
}
