package tree

import "leatwork/api"

const maxDepth = 12

// Cut returns a tree without what is below some depth.
func Cut(t api.Tree, depth int) (api.Tree, api.Errno) {
	if !Valid(t) {
		return api.Tree{}, api.ErrForm
	}
	if depth < 0 || depth > maxDepth {
		return api.Tree{}, api.ErrArg
	}
	out := least(unfolded(least(t), depth))
	if len(out.Nodes) > api.MaxNodes {
		return api.Tree{}, api.ErrFull
	}
	return out, api.OK
}

// place is a node, and how many levels below it are kept.
type place [2]int

// unfolded returns the tree that is cut, as a graph with a node for each place.
func unfolded(t api.Tree, depth int) api.Tree {
	return reached(place{t.Root, depth}, func(p place) (api.Node, []place) {
		node, left := t.Nodes[p[0]], p[1]
		if node.Kind == api.Tuple && left == 0 {
			return api.Node{Kind: api.Atom, Label: "cut"}, nil
		}
		var args []place
		for _, a := range node.Args {
			args = append(args, place{a, left - 1})
		}
		return node, args
	})
}
