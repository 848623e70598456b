// Package tree is layer 1, rational trees: see shared/doc/01-tree.md.
package tree

import (
	"slices"

	"leatwork/api"
)

// Least returns the least graph.
func Least(t api.Tree) (api.Tree, api.Errno) {
	if !Valid(t) {
		return api.Tree{}, api.ErrForm
	}
	return least(t), api.OK
}

// Same reports whether two trees are the same.
func Same(a, b api.Tree) (bool, api.Errno) {
	if !Valid(a) || !Valid(b) {
		return false, api.ErrForm
	}
	return order(a, b) == 0, api.OK
}

// Size returns the number of nodes of the least graph.
func Size(t api.Tree) (int, api.Errno) {
	if !Valid(t) {
		return 0, api.ErrForm
	}
	return len(least(t).Nodes), api.OK
}

// Cyclic reports whether a tree is infinite.
func Cyclic(t api.Tree) (bool, api.Errno) {
	if !Valid(t) {
		return false, api.ErrForm
	}
	return leadsBack(t), api.OK
}

// leadsBack reports whether the root leads to a node that leads to itself.
func leadsBack(t api.Tree) bool {
	entered := make([]bool, len(t.Nodes))
	left := make([]bool, len(t.Nodes))
	var visit func(n int) bool
	visit = func(n int) bool {
		if entered[n] {
			return !left[n]
		}
		entered[n] = true
		back := slices.ContainsFunc(t.Nodes[n].Args, visit)
		left[n] = true
		return back
	}
	return visit(t.Root)
}
