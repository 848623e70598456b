package store_test

import (
	"fmt"
	"math/rand"
	"slices"
	"strings"
	"testing"

	"leatwork/api"
	"leatwork/store"
	"leatwork/tree"
)

func variable() api.Node { return api.Node{Kind: api.Free} }

func integer(n int) api.Node { return api.Node{Kind: api.Int, Int: n} }

func atom(a string) api.Node { return api.Node{Kind: api.Atom, Label: a} }

func tuple(label string, args ...int) api.Node {
	return api.Node{Kind: api.Tuple, Label: label, Args: args}
}

func name(label string, n int) api.Node { return api.Node{Kind: api.Name, Label: label, Int: n} }

// built is a store of these nodes, made by Build.
func built(t testing.TB, nodes ...api.Node) *store.Store {
	t.Helper()
	s, e := store.Build(nodes)
	if e != api.OK {
		t.Fatalf("Build(%v): error %d", nodes, e)
	}
	return s
}

// grow adds nodes one by one, and returns their numbers.
func grow(t testing.TB, s *store.Store, nodes ...api.Node) []int {
	t.Helper()
	var out []int
	for _, n := range nodes {
		at, e := push(s, n)
		if e != api.OK {
			t.Fatalf("%v as a new node: error %d", n, e)
		}
		out = append(out, at)
	}
	return out
}

// push adds a node by the function for its kind.
func push(s *store.Store, n api.Node) (int, api.Errno) {
	switch n.Kind {
	case api.Int:
		return s.Int(n.Int)
	case api.Atom:
		return s.Atom(n.Label)
	case api.Tuple:
		return s.Tuple(n.Label, n.Args)
	case api.Name:
		return s.Name(n.Label, n.Int)
	}
	return s.Var()
}

func unify(t testing.TB, s *store.Store, a, b int) []int {
	t.Helper()
	moved, e := s.Unify(a, b)
	if e != api.OK {
		t.Fatalf("Unify(%d, %d): error %d", a, b, e)
	}
	return moved
}

// test is Test, of which it checks that it changes nothing.
func test(t testing.TB, s *store.Store, a, b int) (int, []int) {
	t.Helper()
	before := observed(t, s)
	k, moved, e := s.Test(a, b)
	if e != api.OK {
		t.Fatalf("Test(%d, %d): error %d", a, b, e)
	}
	if observed(t, s) != before {
		t.Fatalf("Test(%d, %d) changed the store:\n%s\nand before it:\n%s", a, b, observed(t, s), before)
	}
	if k != -1 && len(moved) > 0 {
		t.Fatalf("Test(%d, %d) = %d, %v", a, b, k, moved)
	}
	return k, moved
}

func reps(t testing.TB, s *store.Store) []int {
	t.Helper()
	var out []int
	for n := range s.Size() {
		r, e := s.Rep(n)
		if e != api.OK {
			t.Fatalf("Rep(%d): error %d", n, e)
		}
		out = append(out, r)
	}
	return out
}

func value(t testing.TB, s *store.Store, n int) api.Node {
	t.Helper()
	out, e := s.Value(n)
	if e != api.OK {
		t.Fatalf("Value(%d): error %d", n, e)
	}
	return out
}

func treeOf(t testing.TB, s *store.Store, n int) api.Tree {
	t.Helper()
	out, e := s.Tree(n)
	if e != api.OK {
		t.Fatalf("Tree(%d): error %d", n, e)
	}
	return out
}

func free(t testing.TB, s *store.Store, n int) []int {
	t.Helper()
	out, e := s.Free(n)
	if e != api.OK {
		t.Fatalf("Free(%d): error %d", n, e)
	}
	return out
}

func text(t testing.TB, s *store.Store, n int) string {
	t.Helper()
	out, e := tree.Text(treeOf(t, s, n))
	if e != api.OK {
		t.Fatalf("the text of node %d: error %d", n, e)
	}
	return out
}

func parsed(t testing.TB, s string) api.Tree {
	t.Helper()
	x, e := tree.Parse(s)
	if e != api.OK {
		t.Fatalf("Parse(%q): error %d", s, e)
	}
	return x
}

// observed is all that can be observed of each node of a store.
func observed(t testing.TB, s *store.Store) string {
	t.Helper()
	var out strings.Builder
	for n, r := range reps(t, s) {
		fmt.Fprintln(&out, n, r, value(t, s, n), treeOf(t, s, n), free(t, s, n))
	}
	return out.String()
}

// equation is two nodes that are to be made equal.
type equation [2]int

func (q equation) exchanged() equation { return equation{q[1], q[0]} }

// told makes all equations of a store hold, and reports whether all could.
func told(t testing.TB, s *store.Store, list []equation) bool {
	t.Helper()
	for _, q := range list {
		_, e := s.Unify(q[0], q[1])
		if e == api.ErrFail {
			return false
		}
		if e != api.OK {
			t.Fatalf("Unify(%d, %d): error %d", q[0], q[1], e)
		}
	}
	return true
}

// randomNodes are 1 to most nodes over few labels, so that equations often hold, and graphs that are often cyclic.
func randomNodes(r *rand.Rand, most int) []api.Node {
	count := 1 + r.Intn(most)
	var out []api.Node
	for range count {
		out = append(out, randomNode(r, count))
	}
	return out
}

func randomNode(r *rand.Rand, count int) api.Node {
	switch k := r.Intn(20); {
	case k < 9:
		return variable()
	case k < 10:
		return integer(r.Intn(2))
	case k < 11:
		return atom([]string{"a", "f"}[r.Intn(2)])
	case k < 12:
		return name([]string{"proc", "cell"}[r.Intn(2)], r.Intn(2))
	case k < 13:
		return tuple("g", r.Intn(count))
	case k < 16:
		return tuple("f", r.Intn(count))
	}
	return tuple("f", r.Intn(count), r.Intn(count))
}

func randomEquations(r *rand.Rand, nodes, most int) []equation {
	var out []equation
	for range 1 + r.Intn(most) {
		out = append(out, equation{r.Intn(nodes), r.Intn(nodes)})
	}
	return out
}

// model is nodes and which of them are equal, worked out as the chapter says it, with no regard to how long that takes.
type model struct {
	nodes []api.Node
	equal [][]bool
}

func newModel(nodes []api.Node) *model {
	m := &model{nodes: nodes}
	for i := range nodes {
		m.equal = append(m.equal, make([]bool, len(nodes)))
		m.equal[i][i] = true
	}
	return m
}

func (m *model) clone() *model {
	c := &model{nodes: m.nodes}
	for _, line := range m.equal {
		c.equal = append(c.equal, slices.Clone(line))
	}
	return c
}

// link makes two nodes equal, and what is equal to them.
func (m *model) link(a, b int) {
	ofA, ofB := slices.Clone(m.equal[a]), slices.Clone(m.equal[b])
	for i := range m.nodes {
		for j := range m.nodes {
			if ofA[i] && ofB[j] {
				m.equal[i][j], m.equal[j][i] = true, true
			}
		}
	}
}

// tell makes two nodes equal and all that follows, and reports whether that does not fail; if it does, the model is of no use any more.
func (m *model) tell(a, b int) bool {
	m.link(a, b)
	for again := true; again; {
		again = false
		for i, x := range m.nodes {
			for j, y := range m.nodes {
				if !m.equal[i][j] || x.Kind == api.Free || y.Kind == api.Free {
					continue
				}
				if !sameFace(x, y) {
					return false
				}
				for k := range x.Args {
					if !m.equal[x.Args[k]][y.Args[k]] {
						m.link(x.Args[k], y.Args[k])
						again = true
					}
				}
			}
		}
	}
	return true
}

func sameFace(x, y api.Node) bool {
	return x.Kind == y.Kind && x.Int == y.Int && x.Label == y.Label && len(x.Args) == len(y.Args)
}

func (m *model) rep(n int) int {
	least := -1
	for i, x := range m.nodes {
		if m.equal[n][i] && x.Kind != api.Free {
			return i
		}
		if m.equal[n][i] && least < 0 {
			least = i
		}
	}
	return least
}

func (m *model) reps() []int {
	var out []int
	for n := range m.nodes {
		out = append(out, m.rep(n))
	}
	return out
}

// moved are the variables that were their own representatives before, and are no more.
func (m *model) moved(before *model) []int {
	var out []int
	for n, x := range m.nodes {
		if x.Kind == api.Free && before.rep(n) == n && m.rep(n) != n {
			out = append(out, n)
		}
	}
	return out
}

// denote reports whether two nodes denote the same: whether no way down from both leads to nodes that differ.
func (m *model) denote(a, b int) bool {
	met := map[[2]int]bool{}
	var look func(a, b int) bool
	look = func(a, b int) bool {
		a, b = m.rep(a), m.rep(b)
		x, y := m.nodes[a], m.nodes[b]
		if met[[2]int{a, b}] || a == b {
			return true
		}
		met[[2]int{a, b}] = true
		if x.Kind == api.Free || !sameFace(x, y) {
			return false
		}
		for k := range x.Args {
			if !look(x.Args[k], y.Args[k]) {
				return false
			}
		}
		return true
	}
	return look(a, b)
}

// settled is a store of these nodes in which some random equations hold, at most so many, and a model of it.
func settled(t testing.TB, r *rand.Rand, nodes []api.Node, most int) (*store.Store, *model) {
	t.Helper()
	s, m := built(t, nodes...), newModel(nodes)
	for _, q := range randomEquations(r, len(nodes), most) {
		if next := m.clone(); next.tell(q[0], q[1]) {
			m = next
			unify(t, s, q[0], q[1])
		}
	}
	return s, m
}
