package store_test

import (
	"slices"
	"testing"

	"leatwork/api"
)

const most = api.MaxNodes

// numbers are those from first on and below end.
func numbers(first, end int) []int {
	var out []int
	for n := first; n < end; n++ {
		out = append(out, n)
	}
	return out
}

// chain is count nodes of which each is f of the next one, and the last one is given; their numbers begin at first.
func chain(first, count int, last api.Node) []api.Node {
	var out []api.Node
	for i := range count - 1 {
		out = append(out, tuple("f", first+i+1))
	}
	return append(out, last)
}

// However variables are made equal, one after the other, the least one represents them.
func TestManyVariables(t *testing.T) {
	up, down := func(i int) int { return i + 1 }, func(i int) int { return most - 1 - i }
	for k, pair := range []struct {
		of    func(i int) equation
		moved func(i int) int
	}{
		{func(i int) equation { return equation{i, i + 1} }, up},
		{func(i int) equation { return equation{i + 1, 0} }, up},
		{func(i int) equation { return equation{most - 2 - i, most - 1 - i} }, down},
		{func(i int) equation { return equation{most - 1, most - 2 - i} }, down},
	} {
		s := full(t, 0)
		for i := range most - 1 {
			q := pair.of(i)
			if moved := unify(t, s, q[0], q[1]); !slices.Equal(moved, []int{pair.moved(i)}) {
				t.Fatalf("way %d: Unify%v = %v", k, q, moved)
			}
		}
		for n, r := range reps(t, s) {
			if r != 0 {
				t.Fatalf("way %d: the representative of %d is %d", k, n, r)
			}
		}
	}
}

func TestLongChains(t *testing.T) {
	const half = most / 2
	for _, x := range []struct {
		a, b  api.Node
		moved []int
		e     api.Errno
	}{
		{variable(), atom("a"), []int{half - 1}, api.OK},
		{variable(), variable(), []int{most - 1}, api.OK},
		{atom("a"), atom("a"), nil, api.OK},
		{atom("a"), atom("b"), nil, api.ErrFail},
		{tuple("f", 0), tuple("f", half), nil, api.OK},
		{tuple("f", 0), tuple("g", half), nil, api.ErrFail},
		{tuple("f", 0), variable(), []int{most - 1}, api.OK},
	} {
		s := built(t, append(chain(0, half, x.a), chain(half, half, x.b)...)...)
		if moved, e := s.Unify(0, half); e != x.e || !slices.Equal(moved, x.moved) {
			t.Errorf("%v and %v: Unify = %v, %d", x.a, x.b, moved, e)
		}
		list := reps(t, s)
		if x.e != api.OK && !slices.Equal(list, numbers(0, most)) {
			t.Errorf("%v and %v: Unify failed and changed representatives", x.a, x.b)
		}
		if x.e == api.OK && (list[half] != 0 || list[most-2] > half-2) {
			t.Errorf("%v and %v: representatives are %d and %d", x.a, x.b, list[half], list[most-2])
		}
	}
}

// Rings whose lengths have no common factor become one node.
func TestLongRings(t *testing.T) {
	const first = 3989
	s := built(t, append(chain(0, first, tuple("f", 0)), chain(first, most-first, tuple("f", first))...)...)
	if k, moved, e := s.Test(0, first); e != api.OK || k != 1 || len(moved) > 0 {
		t.Errorf("Test of rings = %d, %v, %d", k, moved, e)
	}
	if moved := unify(t, s, 17, most-1); len(moved) > 0 {
		t.Errorf("Unify of rings = %v", moved)
	}
	for n, r := range reps(t, s) {
		if r != 0 {
			t.Fatalf("the representative of %d is %d", n, r)
		}
	}
	if got := text(t, s, 5000); got != "0=f(@0)" {
		t.Errorf("the tree is %s", got)
	}
}

// A tree whose text would be far too long, as each level has twice the one below, and a variable that becomes as large.
func TestWideTrees(t *testing.T) {
	const levels = 2000
	nodes := []api.Node{variable(), variable()}
	for i := range levels {
		nodes = append(nodes, tuple("f", 2*i, 2*i), tuple("f", 2*i+1, 2*i+1))
	}
	s := built(t, nodes...)
	top := len(nodes) - 2
	if k, moved, e := s.Test(top, top+1); e != api.OK || k != -1 || !slices.Equal(moved, []int{1}) {
		t.Errorf("Test = %d, %v, %d", k, moved, e)
	}
	if moved := unify(t, s, top, top+1); !slices.Equal(moved, []int{1}) {
		t.Errorf("Unify = %v", moved)
	}
	if l := free(t, s, top+1); !slices.Equal(l, []int{0}) {
		t.Errorf("Free = %v", l)
	}
	if x := treeOf(t, s, top); len(x.Nodes) != levels+1 {
		t.Errorf("Tree has %d nodes", len(x.Nodes))
	}
	if moved := unify(t, s, 1, top); !slices.Equal(moved, []int{0}) {
		t.Errorf("Unify = %v", moved)
	}
	if got := text(t, s, 0); got != "0=f(@0 @0)" {
		t.Errorf("the tree is %s", got)
	}
}

// Many failing calls on large classes: each takes back what it did, whichever arguments it begins with, and none of them takes long.
func TestManyFailures(t *testing.T) {
	const vars = 1900 // of each of four classes
	nodes := make([]api.Node, 4*vars)
	nodes = append(nodes, integer(1), integer(2), tuple("f", 0, 4*vars, 2*vars), tuple("f", vars, 4*vars+1, 3*vars))
	s := built(t, nodes...)
	for n := range 4 * vars {
		if n%vars > 0 {
			unify(t, s, n, n-1)
		}
	}
	before := reps(t, s)
	for range 20000 {
		if _, e := s.Unify(len(nodes)-1, len(nodes)-2); e != api.ErrFail {
			t.Fatalf("Unify: %d", e)
		}
		if k, _, e := s.Test(len(nodes)-1, len(nodes)-2); e != api.OK || k != 0 {
			t.Fatalf("Test = %d, %d", k, e)
		}
	}
	if !slices.Equal(reps(t, s), before) {
		t.Error("what fails changes representatives")
	}
}
