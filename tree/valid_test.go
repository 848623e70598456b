package tree_test

import (
	"strings"
	"testing"

	"leatwork/api"
	"leatwork/tree"
)

func TestValidNodes(t *testing.T) {
	for _, n := range []api.Node{
		variable(0), variable(1 << 62),
		integer(0), integer(api.MaxInt), integer(-api.MaxInt),
		atom("a"), atom("z"), atom("aZ_09"), atom("|"), atom("#"), atom(strings.Repeat("a", api.MaxAtom)),
		tuple("f", 0), tuple("|", 0, 0), tuple("#", 0), tuple("f", 0, 0, 0, 0, 0, 0, 0, 0),
		tuple(strings.Repeat("b", api.MaxAtom), 0),
		name("proc", 0), name("cell", 1), name("port", 1<<62),
		{Kind: api.Atom, Label: "a", Args: []int{}},
	} {
		if !tree.Valid(graph(n)) {
			t.Errorf("%v is not valid", n)
		}
	}
}

func notValidNodes() []api.Node {
	return []api.Node{
		variable(-1), {Kind: api.Free, Label: "a"}, {Kind: api.Free, Args: []int{0}},
		integer(api.MaxInt + 1), integer(-api.MaxInt - 1), {Kind: api.Int, Label: "a"}, {Kind: api.Int, Args: []int{0}},
		atom(""), atom("A"), atom("_a"), atom("0"), atom("a-b"), atom("a b"), atom("aé"), atom("||"), atom("|a"), atom("a#"), atom("a\x00"),
		atom("a`"), atom("a{"), atom("a@"), atom("a["), atom("a/"), atom("a:"), atom("`"), atom("{"),
		atom(strings.Repeat("a", api.MaxAtom+1)), {Kind: api.Atom, Label: "a", Int: 1}, {Kind: api.Atom, Label: "a", Args: []int{0}},
		tuple("f"), tuple("f", 0, 0, 0, 0, 0, 0, 0, 0, 0), tuple("f", 1), tuple("f", -1), tuple("f", 0, 1), tuple("F", 0), tuple("", 0), tuple("1", 0),
		tuple(strings.Repeat("b", api.MaxAtom+1), 0), {Kind: api.Tuple, Label: "f", Args: []int{0}, Int: 1},
		name("", 0), name("a", 0), name("Proc", 0), name("proc", -1), {Kind: api.Name, Label: "cell", Args: []int{0}},
		{Kind: 5}, {Kind: -1}, {Kind: 5, Label: "a", Args: []int{0}},
	}
}

func TestNotValidNodes(t *testing.T) {
	for _, n := range notValidNodes() {
		if tree.Valid(graph(n)) {
			t.Errorf("%v is valid", n)
		}
	}
}

func TestValidLooksAtAllNodes(t *testing.T) {
	if tree.Valid(graph(atom("a"), atom("b"), atom("B"))) {
		t.Error("a tree with a malformed node to which the root does not lead is valid")
	}
	if !tree.Valid(graph(atom("a"), atom("b"), tuple("f", 2))) {
		t.Error("a tree with nodes to which the root does not lead is not valid")
	}
}

func TestValidRoot(t *testing.T) {
	nodes := []api.Node{atom("a"), atom("b")}
	for root, want := range map[int]bool{-1: false, 0: true, 1: true, 2: false, -1 << 63: false, 1<<63 - 1: false} {
		if tree.Valid(api.Tree{Nodes: nodes, Root: root}) != want {
			t.Errorf("with the root %d it is not %t", root, want)
		}
	}
	if tree.Valid(api.Tree{}) {
		t.Error("a tree without nodes is valid")
	}
}

func TestValidSize(t *testing.T) {
	nodes := make([]api.Node, api.MaxNodes+1)
	if !tree.Valid(api.Tree{Nodes: nodes[:api.MaxNodes]}) {
		t.Error("a tree of MaxNodes is not valid")
	}
	if tree.Valid(api.Tree{Nodes: nodes}) {
		t.Error("a tree of more than MaxNodes is valid")
	}
}

// notValidTrees are those of notValidNodes, each as root and as a node to which the root does not lead, and some more.
func notValidTrees() []api.Tree {
	out := []api.Tree{{}, {Nodes: []api.Node{atom("a")}, Root: 1}, {Nodes: []api.Node{atom("a")}, Root: -1}, {Nodes: make([]api.Node, api.MaxNodes+1)}}
	for _, n := range notValidNodes() {
		out = append(out, graph(n))
	}
	return append(out, graph(atom("a"), atom("")), graph(atom("a"), tuple("f", 2)))
}

func TestFormErrors(t *testing.T) {
	good := graph(atom("a"))
	for _, x := range notValidTrees() {
		if got, e := tree.Least(x); e != api.ErrForm || !equal(got, api.Tree{}) {
			t.Errorf("Least(%v) = %v, %d", x, got, e)
		}
		for _, pair := range [][2]api.Tree{{x, good}, {good, x}, {x, x}} {
			if got, e := tree.Same(pair[0], pair[1]); e != api.ErrForm || got {
				t.Errorf("Same(%v) = %t, %d", pair, got, e)
			}
			if got, e := tree.Compare(pair[0], pair[1]); e != api.ErrForm || got != 0 {
				t.Errorf("Compare(%v) = %d, %d", pair, got, e)
			}
		}
		if got, e := tree.Size(x); e != api.ErrForm || got != 0 {
			t.Errorf("Size(%v) = %d, %d", x, got, e)
		}
		if got, e := tree.Cyclic(x); e != api.ErrForm || got {
			t.Errorf("Cyclic(%v) = %t, %d", x, got, e)
		}
		if got, e := tree.Text(x); e != api.ErrForm || got != "" {
			t.Errorf("Text(%v) = %q, %d", x, got, e)
		}
		for _, depth := range []int{-1, 0, 12, 13} { // ErrForm comes before ErrArg
			if got, e := tree.Cut(x, depth); e != api.ErrForm || !equal(got, api.Tree{}) {
				t.Errorf("Cut(%v, %d) = %v, %d", x, depth, got, e)
			}
		}
	}
}
