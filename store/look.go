package store

import (
	"slices"

	"leatwork/api"
	"leatwork/tree"
)

// Rep returns the representative of a node.
func (s *Store) Rep(n int) (int, api.Errno) {
	if e := s.checkNodes(n); e != api.OK {
		return 0, e
	}
	return s.rep(n), api.OK
}

// Value returns what the representative of a node is.
func (s *Store) Value(n int) (api.Node, api.Errno) {
	if e := s.checkNodes(n); e != api.OK {
		return api.Node{}, e
	}
	return s.value(s.rep(n)), api.OK
}

// Tree returns the tree that a node denotes.
func (s *Store) Tree(n int) (api.Tree, api.Errno) {
	if e := s.checkNodes(n); e != api.OK {
		return api.Tree{}, e
	}
	return tree.Least(s.graph(n))
}

// Free returns the variables that a node leads to.
func (s *Store) Free(n int) ([]int, api.Errno) {
	if e := s.checkNodes(n); e != api.OK {
		return nil, e
	}
	var out []int
	for _, r := range s.reach(n) {
		if s.isFree(r) {
			out = append(out, r)
		}
	}
	slices.Sort(out)
	return out, api.OK
}

// value returns what a representative is.
func (s *Store) value(rep int) api.Node {
	n := s.nodes[rep]
	if n.kind == api.Free {
		return api.Node{Kind: api.Free, Int: rep}
	}
	var args []int
	for _, a := range s.argsOf(rep) {
		args = append(args, s.rep(a))
	}
	return api.Node{Kind: n.kind, Int: n.number, Label: n.label, Args: args}
}

// graph returns a graph of what a node denotes, with a node for each representative.
func (s *Store) graph(n int) api.Tree {
	reps := s.reach(n)
	index := make([]int, len(s.nodes))
	for i, r := range reps {
		index[r] = i
	}
	out := api.Tree{}
	for _, r := range reps {
		node := s.value(r)
		for i, a := range node.Args {
			node.Args[i] = index[a]
		}
		out.Nodes = append(out.Nodes, node)
	}
	return out
}

// reach returns the representatives of all nodes that a node leads to, its own one first.
func (s *Store) reach(n int) []int {
	top := s.rep(n)
	met := make([]bool, len(s.nodes))
	met[top] = true
	out := []int{top}
	for i := 0; i < len(out); i++ {
		for _, a := range s.argsOf(out[i]) {
			r := s.rep(a)
			if !met[r] {
				met[r] = true
				out = append(out, r)
			}
		}
	}
	return out
}
