package store_test

import (
	"math/rand"
	"slices"
	"testing"

	"leatwork/api"
)

// call is a call of Unify: of which nodes, and what it returns.
type call struct {
	a, b  int
	moved []int
	e     api.Errno
}

func ok(a, b int, moved ...int) call { return call{a, b, moved, api.OK} }

func fails(a, b int) call { return call{a, b, nil, api.ErrFail} }

var unifyExamples = []struct {
	title string
	nodes []api.Node
	calls []call
	reps  []int
	texts []string // of the trees of the first nodes
}{
	{"example 1", []api.Node{variable(), variable(), atom("a")},
		[]call{ok(0, 1, 1), ok(1, 2, 0)}, []int{2, 2, 2}, []string{"a", "a", "a"}},
	{"example 2", []api.Node{variable(), tuple("f", 0), variable(), tuple("f", 2)},
		[]call{ok(1, 3, 2), ok(0, 1, 0)}, []int{1, 1, 1, 1}, []string{"0=f(@0)", "0=f(@0)", "0=f(@0)", "0=f(@0)"}},
	{"example 3", []api.Node{integer(1), integer(1), integer(2)},
		[]call{ok(0, 1), fails(1, 2)}, []int{0, 0, 2}, []string{"1", "1", "2"}},
	{"a node and itself", []api.Node{variable(), tuple("f", 0), integer(1)},
		[]call{ok(0, 0), ok(1, 1), ok(2, 2)}, []int{0, 1, 2}, []string{"_0", "f(_0)", "1"}},
	{"equal already", []api.Node{variable(), variable(), variable()},
		[]call{ok(2, 1, 2), ok(1, 2), ok(0, 1, 1), ok(2, 0), ok(1, 2)}, []int{0, 0, 0}, []string{"_0", "_0", "_0"}},
	{"the least variable", []api.Node{variable(), variable(), variable(), variable()},
		[]call{ok(3, 2, 3), ok(3, 1, 2), ok(2, 0, 1)}, []int{0, 0, 0, 0}, []string{"_0", "_0", "_0", "_0"}},
	{"a value rather than a lesser variable", []api.Node{variable(), variable(), variable(), tuple("f", 0)},
		[]call{ok(1, 2, 2), ok(2, 3, 1)}, []int{0, 3, 3, 3}, []string{"_0", "f(_0)"}},
	{"the least value", []api.Node{atom("a"), variable(), atom("a"), atom("a")},
		[]call{ok(1, 3, 1), ok(2, 1), ok(1, 0)}, []int{0, 0, 0, 0}, []string{"a", "a", "a", "a"}},
	{"of several variables those that were representatives", []api.Node{variable(), variable(), variable(), variable(), atom("a")},
		[]call{ok(2, 1, 2), ok(3, 2, 3), ok(2, 0, 1), ok(4, 3, 0)}, []int{4, 4, 4, 4, 4}, nil},
	{"moved ones rise", []api.Node{variable(), variable(), variable(), tuple("f", 2, 0, 1), integer(1), integer(2), integer(3), tuple("f", 4, 5, 6)},
		[]call{ok(3, 7, 0, 1, 2)}, []int{5, 6, 4, 3, 4, 5, 6, 3}, []string{"2", "3", "1", "f(1 2 3)"}},
	{"moved ones come once", []api.Node{variable(), variable(), variable(), variable(), tuple("f", 3, 2, 1), tuple("f", 2, 1, 0)},
		[]call{ok(5, 4, 1, 2, 3)}, []int{0, 0, 0, 0, 4, 4}, []string{"_0", "_0", "_0", "_0", "f(_0 _0 _0)"}},
	{"arguments only", []api.Node{variable(), tuple("f", 0), variable(), tuple("f", 2)},
		[]call{ok(0, 2, 2)}, []int{0, 1, 0, 3}, []string{"_0", "f(_0)", "_0", "f(_0)"}},
	{"deep", []api.Node{variable(), tuple("f", 0), tuple("f", 1), atom("a"), tuple("f", 3), variable(), tuple("f", 5)},
		[]call{ok(2, 6, 5), ok(5, 4, 0)}, []int{3, 1, 2, 3, 1, 1, 2}, []string{"a", "f(a)", "f(f(a))"}},
	{"a tuple and its argument", []api.Node{variable(), tuple("f", 0)},
		[]call{ok(1, 0, 0)}, []int{1, 1}, []string{"0=f(@0)", "0=f(@0)"}},
	{"a tuple and a part of its argument", []api.Node{variable(), tuple("g", 0), tuple("f", 1)},
		[]call{ok(0, 2, 0)}, []int{2, 1, 2}, []string{"0=f(g(@0))", "0=g(f(@0))", "0=f(g(@0))"}},
	{"a tuple and its argument, which is one", []api.Node{variable(), tuple("f", 0), tuple("f", 1)},
		[]call{ok(1, 2, 0)}, []int{1, 1, 1}, []string{"0=f(@0)", "0=f(@0)", "0=f(@0)"}},
	{"a tuple and its argument, which is another one", []api.Node{variable(), tuple("g", 0), tuple("f", 1)},
		[]call{fails(1, 2)}, []int{0, 1, 2}, []string{"_0", "g(_0)", "f(g(_0))"}},
	{"a tuple and both of its arguments", []api.Node{variable(), variable(), tuple("f", 0, 1)},
		[]call{ok(0, 2, 0), ok(1, 0, 1)}, []int{2, 2, 2}, []string{"0=f(@0 @0)"}},
	{"the same tree, entered at two depths", []api.Node{variable(), tuple("f", 0), tuple("f", 1)},
		[]call{ok(0, 2, 0), ok(0, 1)}, []int{1, 1, 1}, []string{"0=f(@0)"}},
	{"rings of two and three", []api.Node{tuple("f", 1), tuple("f", 0), tuple("f", 3), tuple("f", 4), tuple("f", 2)},
		[]call{ok(4, 1)}, []int{0, 0, 0, 0, 0}, []string{"0=f(@0)"}},
	{"rings of two", []api.Node{tuple("f", 1), tuple("f", 0), tuple("f", 3), tuple("f", 2)},
		[]call{ok(3, 0)}, []int{0, 1, 1, 0}, []string{"0=f(@0)"}},
	{"rings that differ", []api.Node{tuple("f", 1), tuple("g", 0), tuple("f", 3), tuple("g", 4), tuple("f", 5), tuple("h", 2)},
		[]call{fails(0, 2), fails(1, 3), fails(0, 4), fails(5, 1)}, []int{0, 1, 2, 3, 4, 5}, []string{"0=f(g(@0))"}},
	{"a failure by what was made equal", []api.Node{variable(), variable(), integer(1), integer(2)},
		[]call{ok(0, 2, 0), ok(1, 3, 1), fails(0, 1), fails(1, 2)}, []int{2, 3, 2, 3}, []string{"1", "2"}},
	{"a failure by one variable twice", []api.Node{variable(), tuple("f", 0, 0), integer(1), integer(2), tuple("f", 2, 3)},
		[]call{fails(1, 4)}, []int{0, 1, 2, 3, 4}, []string{"_0", "f(_0 _0)"}},
	{"a failure at the last argument", []api.Node{variable(), variable(), integer(1), tuple("f", 0, 1, 2), atom("a"), integer(2), tuple("f", 4, 4, 5)},
		[]call{fails(3, 6), fails(6, 3)}, []int{0, 1, 2, 3, 4, 5, 6}, []string{"_0", "_1"}},
	{"a failure at the first argument", []api.Node{variable(), variable(), integer(1), tuple("f", 2, 0, 1), atom("a"), integer(2), tuple("f", 5, 4, 4)},
		[]call{fails(3, 6), fails(6, 3)}, []int{0, 1, 2, 3, 4, 5, 6}, []string{"_0", "_1"}},
	{"a failure after equal classes have grown", []api.Node{variable(), variable(), variable(), variable(), tuple("f", 0, 1, 2), tuple("f", 1, 2, 3), integer(1), integer(2), tuple("g", 4, 0, 3), tuple("g", 5, 6, 7)},
		[]call{ok(1, 0, 1), fails(8, 9), ok(4, 5, 2, 3), fails(8, 9)}, []int{0, 0, 0, 0, 4, 4, 6, 7, 8, 9}, nil},
	{"a failure in a cycle", []api.Node{variable(), tuple("f", 0, 0), variable(), tuple("f", 2, 4), integer(1)},
		[]call{ok(0, 1, 0), ok(2, 3, 2), fails(0, 2), fails(1, 3)}, []int{1, 1, 3, 3, 4}, []string{"0=f(@0 @0)", "0=f(@0 @0)", "0=f(@0 1)"}},
	{"a variable of an infinite tree", []api.Node{variable(), tuple("f", 0, 0), variable(), tuple("f", 2, 4), variable()},
		[]call{ok(0, 1, 0), ok(2, 3, 2), ok(0, 2, 4)}, []int{1, 1, 1, 1, 1}, []string{"0=f(@0 @0)"}},
	{"names", []api.Node{name("proc", 1), name("proc", 1), name("proc", 2), name("cell", 1), name("port", 1), variable()},
		[]call{ok(1, 0), fails(0, 2), fails(0, 3), fails(3, 4), fails(2, 1), ok(5, 4, 5), fails(5, 3)}, []int{0, 0, 2, 3, 4, 4}, []string{"<proc 1>", "<proc 1>"}},
	{"of eight arguments each", []api.Node{variable(), variable(), tuple("f", 0, 0, 0, 0, 0, 0, 0, 1), integer(1), integer(2), tuple("f", 3, 3, 3, 3, 3, 3, 3, 4)},
		[]call{ok(2, 5, 0, 1)}, []int{3, 4, 2, 3, 4, 2}, []string{"1", "2"}},
}

func TestUnifyExamples(t *testing.T) {
	for _, x := range unifyExamples {
		s := built(t, x.nodes...)
		for _, c := range x.calls {
			before := observed(t, s)
			checkTest(t, x.title, s, c)
			moved, e := s.Unify(c.a, c.b)
			if e != c.e || !slices.Equal(moved, c.moved) {
				t.Errorf("%s: Unify(%d, %d) = %v, %d", x.title, c.a, c.b, moved, e)
			}
			if e != api.OK && observed(t, s) != before {
				t.Errorf("%s: Unify(%d, %d) failed and changed the store", x.title, c.a, c.b)
			}
		}
		if got := reps(t, s); !slices.Equal(got, x.reps) {
			t.Errorf("%s: the representatives are %v, want %v", x.title, got, x.reps)
		}
		for n, want := range x.texts {
			if got := text(t, s, n); got != want {
				t.Errorf("%s: Tree(%d) = %s, want %s", x.title, n, got, want)
			}
		}
	}
}

// The sides of equations can be exchanged (P2.2).
func TestUnifyExamplesExchanged(t *testing.T) {
	for _, x := range unifyExamples {
		s := built(t, x.nodes...)
		for _, c := range x.calls {
			moved, e := s.Unify(c.b, c.a)
			if e != c.e || !slices.Equal(moved, c.moved) {
				t.Errorf("%s: Unify(%d, %d) = %v, %d", x.title, c.b, c.a, moved, e)
			}
		}
		if got := reps(t, s); !slices.Equal(got, x.reps) {
			t.Errorf("%s: the representatives are %v, want %v", x.title, got, x.reps)
		}
	}
}

// What fails: nodes that are different, of all kinds.
func TestDifferent(t *testing.T) {
	nodes := []api.Node{integer(1), integer(-1), integer(0), atom("a"), atom("f"), atom("|"), atom("proc"), name("proc", 0), name("proc", 1), name("cell", 0), name("port", 0)}
	for i := range nodes {
		nodes = append(nodes, tuple("f", i), tuple("f", i, i))
	}
	nodes = append(nodes, tuple("g", 0), tuple("f", 0, 1), tuple("f", 1, 0), tuple("|", 0), tuple("proc", 0), tuple("f", 0, 0, 0))
	s := built(t, nodes...)
	for a := range nodes {
		for b := range nodes {
			if a == b {
				continue
			}
			if k, _ := test(t, s, a, b); k != 0 {
				t.Errorf("Test of %v and %v = %d", nodes[a], nodes[b], k)
			}
			if moved, e := s.Unify(a, b); e != api.ErrFail || len(moved) > 0 {
				t.Errorf("Unify of %v and %v = %v, %d", nodes[a], nodes[b], moved, e)
			}
		}
	}
	for n, r := range reps(t, s) {
		if r != n {
			t.Errorf("the representative of %d is %d", n, r)
		}
	}
}

// P2.1, P2.3, P2.7, and what Unify returns: as the model says it.
func TestUnifyAsModel(t *testing.T) {
	r := rand.New(rand.NewSource(1))
	failed, held := 0, 0
	for range 20000 {
		nodes := randomNodes(r, 9)
		s, m := built(t, nodes...), newModel(nodes)
		for _, q := range randomEquations(r, len(nodes), 5) {
			before, next := observed(t, s), m.clone()
			can := next.tell(q[0], q[1])
			moved, e := s.Unify(q[0], q[1])
			if can != (e == api.OK) || !can && e != api.ErrFail {
				t.Fatalf("%v: Unify%v: error %d, and it can be: %t", nodes, q, e, can)
			}
			if !can {
				failed++
				if len(moved) > 0 || observed(t, s) != before {
					t.Fatalf("%v: Unify%v fails and changes the store, or returns %v", nodes, q, moved)
				}
				continue
			}
			held++
			if want := next.moved(m); !slices.Equal(moved, want) {
				t.Fatalf("%v: Unify%v = %v, want %v", nodes, q, moved, want)
			}
			if got, want := reps(t, s), next.reps(); !slices.Equal(got, want) {
				t.Fatalf("%v: after Unify%v the representatives are %v, want %v", nodes, q, got, want)
			}
			if k, _ := test(t, s, q[0], q[1]); k != 1 || text(t, s, q[0]) != text(t, s, q[1]) {
				t.Fatalf("%v: after Unify%v Test is %d", nodes, q, k)
			}
			m = next
		}
	}
	if failed < 1000 || held < 1000 {
		t.Errorf("%d equations failed, and %d held: too few", failed, held)
	}
}

// P2.2: all orders, with sides exchanged or not, give the same representatives, or in each of them one fails.
func TestOrder(t *testing.T) {
	r := rand.New(rand.NewSource(2))
	failed := 0
	for range 2000 {
		nodes := randomNodes(r, 9)
		list := randomEquations(r, len(nodes), 4)
		first := built(t, nodes...)
		can := told(t, first, list)
		if !can {
			failed++
		}
		for _, order := range orders(list) {
			for i := range order {
				if r.Intn(2) == 0 {
					order[i] = order[i].exchanged()
				}
			}
			s := built(t, nodes...)
			if told(t, s, order) != can {
				t.Fatalf("%v: %v hold: %t, and not so %v", nodes, list, can, order)
			}
			if can && observed(t, s) != observed(t, first) {
				t.Fatalf("%v: %v and %v give\n%s\nand\n%s", nodes, list, order, observed(t, first), observed(t, s))
			}
		}
	}
	if failed < 100 || failed > 1900 {
		t.Errorf("%d of 2000 fail", failed)
	}
}

// orders are all orders of a list.
func orders(list []equation) [][]equation {
	if len(list) == 0 {
		return [][]equation{nil}
	}
	var out [][]equation
	for i := range list {
		rest := slices.Delete(slices.Clone(list), i, i+1)
		for _, o := range orders(rest) {
			out = append(out, append([]equation{list[i]}, o...))
		}
	}
	return out
}

// P2.4: what is bound keeps its kind, number, label and number of arguments; P2.7 holds for failing equations between.
func TestOnce(t *testing.T) {
	r := rand.New(rand.NewSource(3))
	for range 3000 {
		nodes := randomNodes(r, 10)
		s := built(t, nodes...)
		for _, q := range randomEquations(r, len(nodes), 10) {
			var before []api.Node
			for n := range nodes {
				before = append(before, value(t, s, n))
			}
			s.Unify(q[0], q[1])
			for n, x := range before {
				if y := value(t, s, n); x.Kind != api.Free && !sameFace(x, y) {
					t.Fatalf("%v: node %d was %v, and after Unify%v is %v", nodes, n, x, q, y)
				}
			}
		}
	}
}

// P2.6: of trees without variables, Unify succeeds exactly if they are the same.
func TestUnifyOfValues(t *testing.T) {
	r := rand.New(rand.NewSource(4))
	equal := 0
	for range 5000 {
		nodes := randomNodes(r, 7)
		for i, n := range nodes {
			if n.Kind == api.Free {
				nodes[i] = tuple("f", r.Intn(len(nodes)))
			}
		}
		s := built(t, nodes...)
		a, b := r.Intn(len(nodes)), r.Intn(len(nodes))
		same := newModel(nodes).denote(a, b)
		moved, e := s.Unify(a, b)
		if same != (e == api.OK) || len(moved) > 0 {
			t.Fatalf("%v: Unify(%d, %d) = %v, %d, and they are the same: %t", nodes, a, b, moved, e, same)
		}
		if same && a != b {
			equal++
		}
	}
	if equal < 100 {
		t.Errorf("only %d were the same", equal)
	}
}

func TestUnifyArguments(t *testing.T) {
	s := built(t, variable(), atom("a"))
	before := observed(t, s)
	for _, q := range []equation{{-1, 0}, {0, -1}, {2, 0}, {0, 2}, {2, 2}, {-1, -1}, {-1 << 63, 0}, {0, 1<<63 - 1}} {
		if moved, e := s.Unify(q[0], q[1]); e != api.ErrArg || len(moved) > 0 {
			t.Errorf("Unify%v = %v, %d", q, moved, e)
		}
		if k, moved, e := s.Test(q[0], q[1]); e != api.ErrArg || k != 0 || len(moved) > 0 {
			t.Errorf("Test%v = %d, %v, %d", q, k, moved, e)
		}
	}
	if observed(t, s) != before {
		t.Error("a call with arguments that are not valid changed the store")
	}
	if _, e := built(t).Unify(0, 0); e != api.ErrArg {
		t.Errorf("Unify in a store without nodes: %d", e)
	}
}
