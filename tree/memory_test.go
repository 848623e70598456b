package tree_test

import (
	"reflect"
	"testing"

	"leatwork/api"
	"leatwork/tree"
)

// results calls all functions that return trees.
func results(t *testing.T, x api.Tree) []api.Tree {
	return []api.Tree{least(t, x), cut(t, x, 0), cut(t, x, 2), cut(t, x, 12)}
}

// spoil writes to all memory that a tree can reach.
func spoil(x api.Tree) {
	for i := range x.Nodes {
		args := x.Nodes[i].Args
		args = args[:cap(args)]
		for k := range args {
			args[k] = -7
		}
		x.Nodes[i] = api.Node{Kind: -7}
	}
}

// R5
func TestArgumentsStay(t *testing.T) {
	x := graph(tuple("f", 1, 2, 3), tuple("f", 1, 2, 3), tuple("g", 4), tuple("g", 5), integer(1), integer(1))
	before := clone(x)
	for _, got := range results(t, x) {
		spoil(got)
	}
	same(t, x, x)
	compare(t, x, x)
	size(t, x)
	cyclic(t, x)
	text(t, x)
	tree.Valid(x)
	if !reflect.DeepEqual(x, before) {
		t.Errorf("the argument is %v, and was %v", x, before)
	}
}

// R5: results share no memory with arguments, with one another, or among their own parts.
func TestResultsAreNew(t *testing.T) {
	x := graph(tuple("f", 1, 2, 3), tuple("g", 2, 3, 0), tuple("h", 3), integer(1))
	y := clone(x)
	want := results(t, y)
	got := results(t, x)
	spoil(x)
	for i := range got {
		if !equal(got[i], want[i]) {
			t.Errorf("result %d is %v, want %v", i, got[i], want[i])
		}
		spoil(got[i])
	}
	for i, x := range want {
		for k := range x.Nodes {
			got := results(t, y)[i]
			spoil(api.Tree{Nodes: got.Nodes[k : k+1]})
			got.Nodes[k] = x.Nodes[k]
			if !equal(got, x) {
				t.Errorf("result %d: the arguments of node %d share memory with others", i, k)
			}
		}
	}
}

// R4
func TestEmptyArgs(t *testing.T) {
	x, y := graph(tuple("f", 1), atom("a")), graph(tuple("f", 1), api.Node{Kind: api.Atom, Label: "a", Args: []int{}})
	if !tree.Valid(y) || !same(t, x, y) || compare(t, x, y) != 0 || !equal(least(t, x), least(t, y)) || text(t, y) != "f(a)" {
		t.Error("nil and empty arguments are not the same")
	}
}
