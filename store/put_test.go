package store_test

import (
	"slices"
	"strings"
	"testing"

	"leatwork/api"
	"leatwork/store"
)

// full is a store of MaxNodes variables, but for some that are missing.
func full(t testing.TB, missing int) *store.Store {
	t.Helper()
	return built(t, make([]api.Node, api.MaxNodes-missing)...)
}

func TestNew(t *testing.T) {
	s := store.New()
	if s == nil || s.Size() != 0 {
		t.Fatal("New does not return a store without nodes")
	}
	if n, e := s.Var(); e != api.OK || n != 0 {
		t.Errorf("the first node: %d, %d", n, e)
	}
	if store.New().Size() != 0 {
		t.Error("a second store has the nodes of the first one")
	}
}

func TestNewNodes(t *testing.T) {
	list := []api.Node{
		variable(), variable(), integer(0), integer(api.MaxInt), integer(-api.MaxInt), integer(0),
		atom("a"), atom("zZ_09"), atom("|"), atom("#"), atom("a"), atom(strings.Repeat("a", api.MaxAtom)),
		tuple("f", 0), tuple("|", 2, 12), tuple("#", 6), tuple("f", 0), tuple("f", 0, 1, 2, 3, 4, 5, 6, 7), tuple(strings.Repeat("b", api.MaxAtom), 0, 0),
		name("proc", 0), name("cell", 1), name("port", 1<<63-1), name("proc", 0),
	}
	s := store.New()
	for i, n := range list {
		at, e := push(s, n)
		if e != api.OK || at != i || s.Size() != i+1 {
			t.Fatalf("%v as a new node: %d, %d, and there are %d nodes", n, at, e, s.Size())
		}
	}
	for i, n := range list {
		want := n
		if n.Kind == api.Free {
			want.Int = i
		}
		if got := value(t, s, i); !sameFace(got, want) || !slices.Equal(got.Args, want.Args) {
			t.Errorf("Value(%d) = %v, want %v", i, got, want)
		}
		if r, e := s.Rep(i); e != api.OK || r != i {
			t.Errorf("Rep(%d) = %d, %d", i, r, e)
		}
	}
}

// wrongNodes are nodes that may not be made in a store with two nodes.
func wrongNodes() []api.Node {
	out := []api.Node{
		integer(api.MaxInt + 1), integer(-api.MaxInt - 1), integer(1<<63 - 1), integer(-1 << 63),
		tuple("f"), tuple("f", 0, 0, 0, 0, 0, 0, 0, 0, 0), tuple("f", 2), tuple("f", -1), tuple("f", 0, 1, 2), tuple("f", -1<<63), tuple("f", 1<<63-1),
		name("", 0), name("a", 0), name("Proc", 0), name("procs", 0), name("var", 0), name("proc", -1), name("cell", -1<<63), name("a", -1),
		tuple("F", 9), tuple("F"),
	}
	for _, label := range []string{"", "A", "_a", "0", "a-b", "a b", "aé", "||", "##", "|a", "a#", "a\x00", strings.Repeat("a", api.MaxAtom+1)} {
		out = append(out, atom(label), tuple(label, 0))
	}
	return out
}

func TestWrongNodes(t *testing.T) {
	s := built(t, variable(), atom("a"))
	before := observed(t, s)
	for _, n := range wrongNodes() {
		if at, e := push(s, n); e != api.ErrArg || at != 0 {
			t.Errorf("%v as a new node: %d, %d", n, at, e)
		}
	}
	if s.Size() != 2 || observed(t, s) != before {
		t.Error("what is refused changes the store")
	}
	grow(t, s, tuple("f", 1, 0))
	grow(t, s, tuple("f", 2))
}

func TestFull(t *testing.T) {
	for _, n := range []api.Node{variable(), integer(1), atom("a"), tuple("f", 0, api.MaxNodes-2), name("cell", 1)} {
		s := full(t, 1)
		if at, e := push(s, n); e != api.OK || at != api.MaxNodes-1 {
			t.Errorf("%v as the last node: %d, %d", n, at, e)
		}
		if at, e := push(s, n); e != api.ErrFull || at != 0 || s.Size() != api.MaxNodes {
			t.Errorf("%v as one node more: %d, %d", n, at, e)
		}
	}
	s := full(t, 0)
	for _, n := range []api.Node{integer(api.MaxInt + 1), atom("A"), tuple("f"), tuple("F", 0), tuple("f", api.MaxNodes), name("a", 0)} {
		if at, e := push(s, n); e != api.ErrArg || at != 0 { // ErrArg comes before ErrFull
			t.Errorf("%v in a store that is full: %d, %d", n, at, e)
		}
	}
	if s.Size() != api.MaxNodes || len(unify(t, s, 0, api.MaxNodes-1)) != 1 {
		t.Error("a store that is full cannot be used")
	}
}

func TestAdd(t *testing.T) {
	for _, x := range []struct {
		in    api.Tree
		nodes []api.Node // in a store that has two nodes
	}{
		{parsed(t, "a"), []api.Node{atom("a")}},
		{parsed(t, "-3"), []api.Node{integer(-3)}},
		{parsed(t, "_0"), []api.Node{{Kind: api.Free, Int: 2}}},
		{parsed(t, "<port 4>"), []api.Node{name("port", 4)}},
		{parsed(t, "f(g(1) a g(1))"), []api.Node{tuple("f", 3, 5, 3), tuple("g", 4), integer(1), atom("a")}},
		{parsed(t, "f(_7 _0 g(_7))"), []api.Node{tuple("f", 3, 4, 5), {Kind: api.Free, Int: 3}, {Kind: api.Free, Int: 4}, tuple("g", 3)}},
		{parsed(t, "0=f(1=g(@1 @0) @0)"), []api.Node{tuple("f", 3, 2), tuple("g", 3, 2)}},
		{api.Tree{Nodes: []api.Node{atom("b"), tuple("f", 2), tuple("f", 1), tuple("g", 1, 4, 2), {Kind: api.Free, Int: 1 << 62}}, Root: 3}, // not least, and in another order
			[]api.Node{tuple("g", 3, 4, 3), tuple("f", 3), {Kind: api.Free, Int: 4}}},
	} {
		s := built(t, variable(), variable())
		at, e := s.Add(x.in)
		if e != api.OK || at != 2 || s.Size() != 2+len(x.nodes) {
			t.Fatalf("Add(%v) = %d, %d, and there are %d nodes", x.in, at, e, s.Size())
		}
		for i, want := range x.nodes {
			if got := value(t, s, 2+i); !sameFace(got, want) || !slices.Equal(got.Args, want.Args) {
				t.Errorf("Add(%v): Value(%d) = %v, want %v", x.in, 2+i, got, want)
			}
		}
	}
}

// Nodes of several trees that are added are not the same ones, and those of the store before are as they were.
func TestAddTwice(t *testing.T) {
	s := built(t, variable(), tuple("f", 0))
	before := observed(t, s)
	x := parsed(t, "f(_0 a)")
	for _, want := range []int{2, 5} {
		if at, e := s.Add(x); e != api.OK || at != want {
			t.Fatalf("Add = %d, %d, want %d", at, e, want)
		}
	}
	if got := text(t, s, 2) + text(t, s, 5); got != "f(_3 a)f(_6 a)" || !strings.HasPrefix(observed(t, s), before) {
		t.Errorf("the trees are %s", got)
	}
	if moved := unify(t, s, 2, 5); !slices.Equal(moved, []int{6}) {
		t.Errorf("Unify = %v", moved)
	}
}

// wrongTrees are trees that are not valid.
func wrongTrees() []api.Tree {
	out := []api.Tree{
		{}, {Nodes: []api.Node{atom("a")}, Root: 1}, {Nodes: []api.Node{atom("a")}, Root: -1},
		{Nodes: make([]api.Node, api.MaxNodes+1)},
		{Nodes: []api.Node{{Kind: api.Free, Int: -1}}}, {Nodes: []api.Node{{Kind: 5}}}, {Nodes: []api.Node{{Kind: -1}}},
		{Nodes: []api.Node{{Kind: api.Int, Label: "a"}}}, {Nodes: []api.Node{{Kind: api.Atom, Label: "a", Args: []int{0}}}},
		{Nodes: []api.Node{atom("a"), atom("A")}}, // the root does not lead to the wrong one
	}
	for _, n := range wrongNodes() {
		out = append(out, api.Tree{Nodes: []api.Node{n, variable()}})
	}
	return out
}

func TestAddWrongTrees(t *testing.T) {
	s, crowded := built(t, variable(), tuple("f", 0)), full(t, 0)
	before := observed(t, s)
	for _, x := range wrongTrees() {
		if at, e := s.Add(x); e != api.ErrForm || at != 0 {
			t.Errorf("Add(%v) = %d, %d", x, at, e)
		}
		if at, e := crowded.Add(x); e != api.ErrForm || at != 0 { // ErrForm comes before ErrFull
			t.Errorf("in a store that is full Add(%v) = %d, %d", x, at, e)
		}
	}
	if s.Size() != 2 || observed(t, s) != before {
		t.Error("what is refused changes the store")
	}
}

func TestAddFull(t *testing.T) {
	x := parsed(t, "f(g(1) g(1) _0)") // four nodes
	for _, missing := range []int{0, 1, 3} {
		s := full(t, missing)
		if at, e := s.Add(x); e != api.ErrFull || at != 0 || s.Size() != api.MaxNodes-missing {
			t.Errorf("with room for %d: Add = %d, %d, and there are %d nodes", missing, at, e, s.Size())
		}
	}
	for _, missing := range []int{4, 5} {
		s := full(t, missing)
		if at, e := s.Add(x); e != api.OK || at != api.MaxNodes-missing || text(t, s, at)[:12] != "f(g(1) g(1) " {
			t.Errorf("with room for %d: Add = %d, %d", missing, at, e)
		}
	}
	// It is the least graph that needs room.
	ring := api.Tree{Nodes: make([]api.Node, api.MaxNodes)}
	for i := range ring.Nodes {
		ring.Nodes[i] = tuple("f", (i+1)%api.MaxNodes)
	}
	s := full(t, 1)
	if at, e := s.Add(ring); e != api.OK || text(t, s, at) != "0=f(@0)" {
		t.Errorf("Add of a ring: %d, %d", at, e)
	}
	// A tree of as many nodes as there may be.
	for i := range ring.Nodes {
		ring.Nodes[i] = tuple("f", (i+1)%api.MaxNodes)
	}
	ring.Nodes[7] = integer(7)
	ring.Root = 8
	s = store.New()
	if at, e := s.Add(ring); e != api.OK || at != 0 || s.Size() != api.MaxNodes {
		t.Errorf("Add of a long tree: %d, %d", at, e)
	}
	s = full(t, api.MaxNodes-1)
	if at, e := s.Add(ring); e != api.ErrFull || at != 0 || s.Size() != 1 {
		t.Errorf("Add of a tree that is too long by one: %d, %d", at, e)
	}
}

func TestBuild(t *testing.T) {
	nodes := []api.Node{
		tuple("f", 0, 4), {Kind: api.Free, Int: 7}, {Kind: api.Free, Int: 7}, {Kind: api.Free, Int: 1<<63 - 1}, tuple("g", 2), tuple("g", 2),
		integer(5), integer(5), atom("a"), name("cell", 3), tuple("h", 12, 1), integer(-api.MaxInt), tuple("h", 10, 1),
	}
	s := built(t, nodes...)
	if s.Size() != len(nodes) {
		t.Errorf("Build: %d nodes", s.Size())
	}
	for i, want := range nodes {
		if want.Kind == api.Free {
			want.Int = i
		}
		if got := value(t, s, i); !sameFace(got, want) || !slices.Equal(got.Args, want.Args) {
			t.Errorf("Value(%d) = %v, want %v", i, got, want)
		}
		if r, _ := s.Rep(i); r != i {
			t.Errorf("Rep(%d) = %d", i, r)
		}
	}
	if got := text(t, s, 0) + text(t, s, 12); got != "0=f(@0 g(_2))0=h(@0 _1)" {
		t.Errorf("the trees are %s", got)
	}
	if k, moved := test(t, s, 1, 2); k != -1 || !slices.Equal(moved, []int{2}) {
		t.Errorf("of variables with the same Int: Test = %d, %v", k, moved)
	}
	if n, e := s.Var(); e != api.OK || n != len(nodes) {
		t.Errorf("the next node: %d, %d", n, e)
	}
}

func TestBuildLimits(t *testing.T) {
	for _, nodes := range [][]api.Node{nil, {}} {
		if s, e := store.Build(nodes); e != api.OK || s == nil || s.Size() != 0 {
			t.Errorf("Build of no nodes: error %d", e)
		} else if n, e := s.Var(); e != api.OK || n != 0 {
			t.Errorf("the first node: %d, %d", n, e)
		}
	}
	if s := full(t, 0); s.Size() != api.MaxNodes {
		t.Errorf("Build of MaxNodes: %d", s.Size())
	}
	if s, e := store.Build(make([]api.Node, api.MaxNodes+1)); e != api.ErrForm || s != nil {
		t.Errorf("Build of more than MaxNodes: error %d", e)
	}
	for _, x := range wrongTrees() {
		if x.Root != 0 || len(x.Nodes) == 0 {
			continue
		}
		if s, e := store.Build(x.Nodes); e != api.ErrForm || s != nil {
			t.Errorf("Build(%v): error %d", x.Nodes, e)
		}
	}
	if s, e := store.Build([]api.Node{tuple("f", 1, 2), variable()}); e != api.ErrForm || s != nil {
		t.Errorf("Build with an argument that is no node: error %d", e)
	}
}
