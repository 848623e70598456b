package store

import (
	"slices"

	"leatwork/api"
	"leatwork/tree"
)

// Var adds a variable.
func (s *Store) Var() (int, api.Errno) {
	return s.leaf(api.Node{Kind: api.Free})
}

// Int adds an integer.
func (s *Store) Int(n int) (int, api.Errno) {
	return s.leaf(api.Node{Kind: api.Int, Int: n})
}

// Atom adds an atom.
func (s *Store) Atom(a string) (int, api.Errno) {
	return s.leaf(api.Node{Kind: api.Atom, Label: a})
}

// Name adds a name.
func (s *Store) Name(label string, n int) (int, api.Errno) {
	return s.leaf(api.Node{Kind: api.Name, Int: n, Label: label})
}

// leaf adds a node that has no arguments.
func (s *Store) leaf(n api.Node) (int, api.Errno) {
	if !s.made() {
		return 0, api.ErrState
	}
	if !validLeaf(n) {
		return 0, api.ErrArg
	}
	if s.room() < 1 {
		return 0, api.ErrFull
	}
	return s.put(n), api.OK
}

// Tuple adds a tuple.
func (s *Store) Tuple(label string, args []int) (int, api.Errno) {
	if !s.made() {
		return 0, api.ErrState
	}
	if !validLeaf(api.Node{Kind: api.Atom, Label: label}) || !s.validArgs(args) {
		return 0, api.ErrArg
	}
	if s.room() < 1 {
		return 0, api.ErrFull
	}
	return s.put(api.Node{Kind: api.Tuple, Label: label, Args: args}), api.OK
}

// Add adds the nodes of a tree.
func (s *Store) Add(t api.Tree) (int, api.Errno) {
	if !s.made() {
		return 0, api.ErrState
	}
	least, e := tree.Least(t)
	if e != api.OK {
		return 0, e
	}
	if len(least.Nodes) > s.room() {
		return 0, api.ErrFull
	}
	first := len(s.nodes)
	for _, n := range least.Nodes {
		for i := range n.Args {
			n.Args[i] += first
		}
		s.put(n)
	}
	return first + least.Root, api.OK
}

func validLeaf(n api.Node) bool {
	return tree.Valid(api.Tree{Nodes: []api.Node{n}})
}

func (s *Store) validArgs(args []int) bool {
	if len(args) < 1 || len(args) > api.MaxArity {
		return false
	}
	return !slices.ContainsFunc(args, func(a int) bool { return !s.has(a) })
}

// room returns how many nodes more there may be.
func (s *Store) room() int {
	return api.MaxNodes - len(s.nodes)
}

// put adds a node, which is valid, and for which there is room; its arguments may be nodes that are added later. The Int of a variable is never read again: its number here is its own.
func (s *Store) put(n api.Node) int {
	at := len(s.nodes)
	f := face{kind: n.Kind, number: n.Int, arity: len(n.Args), label: n.Label}
	s.nodes = append(s.nodes, node{face: f, from: len(s.args)})
	s.args = append(s.args, n.Args...)
	s.classes = append(s.classes, class{top: at, rep: at, size: 1})
	return at
}
