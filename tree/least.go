package tree

import "leatwork/api"

// least returns the least graph of a graph, which may have more than MaxNodes nodes.
func least(t api.Tree) api.Tree {
	return merged(t, newDivision(t.Nodes).settle())
}

// merged returns the graph in which the nodes of each class are one, numbered as a least graph is.
func merged(t api.Tree, class []int) api.Tree {
	member := make([]int, len(class))
	for n, c := range class {
		member[c] = n
	}
	return reached(class[t.Root], func(c int) (api.Node, []int) {
		node := t.Nodes[member[c]]
		var args []int
		for _, a := range node.Args {
			args = append(args, class[a])
		}
		return node, args
	})
}

// reached returns the graph with a node for each key that the root leads to, numbered as a least graph is; look says what the node of a key is, and the keys of its arguments.
func reached[K comparable](root K, look func(key K) (api.Node, []K)) api.Tree {
	var nodes []api.Node
	number := map[K]int{}
	var visit func(key K) int
	visit = func(key K) int {
		if at, met := number[key]; met {
			return at
		}
		at := len(nodes)
		number[key] = at
		node, keys := look(key)
		nodes = append(nodes, api.Node{Kind: node.Kind, Int: node.Int, Label: node.Label})
		var args []int
		for _, k := range keys {
			args = append(args, visit(k))
		}
		nodes[at].Args = args
		return at
	}
	top := visit(root)
	return api.Tree{Nodes: nodes, Root: top}
}
