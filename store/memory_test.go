package store_test

import (
	"fmt"
	"testing"

	"leatwork/api"
	"leatwork/store"
)

// spoil writes to all memory that a slice has, also behind its end.
func spoil(list []int) {
	list = list[:cap(list)]
	for i := range list {
		list[i] = -7
	}
}

func spoilNodes(nodes []api.Node) {
	for i := range nodes {
		spoil(nodes[i].Args)
		nodes[i] = api.Node{Kind: -7}
	}
}

// R5: arguments are neither changed nor retained.
func TestArgumentsStay(t *testing.T) {
	args := append(make([]int, 0, 9), 1, 0)
	nodes := []api.Node{{Kind: api.Free, Int: 5}, tuple("f", 2, 0), tuple("g", 1)}
	x := api.Tree{Nodes: []api.Node{integer(1), tuple("f", 0, 2, 3), tuple("g", 0), {Kind: api.Free, Int: 5}}, Root: 1}
	was := fmt.Sprint(args, nodes, x)
	s := built(t, nodes...)
	n, _ := s.Tuple("h", args)
	m, _ := s.Add(x)
	unify(t, s, 0, n)
	s.Unify(n, m)
	if got := fmt.Sprint(args, nodes, x); got != was {
		t.Errorf("the arguments were %s, and are %s", was, got)
	}
	before := observed(t, s)
	spoil(args)
	spoilNodes(nodes)
	spoilNodes(x.Nodes)
	if observed(t, s) != before {
		t.Error("the store retains its arguments")
	}
}

// R5: results are new memory.
func TestResultsAreNew(t *testing.T) {
	s := built(t, variable(), variable(), variable(), tuple("f", 0, 1, 2), tuple("f", 1, 2, 2), tuple("g", 3, 4, 5), variable(), tuple("f", 6, 6, 6))
	before := observed(t, s)
	k, moved := test(t, s, 3, 4)
	if k != -1 || len(moved) != 2 {
		t.Fatalf("Test = %d, %v", k, moved)
	}
	spoil(moved)
	for n := range s.Size() {
		spoil(value(t, s, n).Args)
		spoilNodes(treeOf(t, s, n).Nodes)
		spoil(free(t, s, n))
	}
	if observed(t, s) != before {
		t.Error("the store changes with its results")
	}
	c := s.Clone()
	first, second := unify(t, s, 3, 4), unify(t, s, 0, 6)
	unify(t, c, 3, 4)
	unify(t, c, 0, 6)
	want := fmt.Sprint(second)
	spoil(first)
	if fmt.Sprint(second) != want || observed(t, s) != observed(t, c) {
		t.Error("what Unify returned shares memory with the store, or with what it returned before")
	}
	spoil(second)
	for n := range s.Size() {
		x, y := treeOf(t, s, n), treeOf(t, s, n)
		for i := range x.Nodes {
			spoilNodes(x.Nodes[i : i+1])
			x.Nodes[i] = y.Nodes[i]
			if !equalTrees(x, y) {
				t.Errorf("Tree(%d): the arguments of node %d share memory with others", n, i)
			}
			x = treeOf(t, s, n)
		}
	}
	if observed(t, s) != observed(t, c) {
		t.Error("the store changes with its results")
	}
}

// R4
func TestEmptyArguments(t *testing.T) {
	a := built(t, api.Node{Kind: api.Atom, Label: "a", Args: []int{}}, api.Node{Kind: api.Free, Args: []int{}})
	if got, want := observed(t, a), observed(t, built(t, atom("a"), variable())); got != want {
		t.Errorf("with empty arguments the store is\n%s\nand with none\n%s", got, want)
	}
	for _, args := range [][]int{nil, {}} {
		if n, e := store.New().Tuple("f", args); e != api.ErrArg || n != 0 {
			t.Errorf("Tuple without arguments: %d, %d", n, e)
		}
	}
}
