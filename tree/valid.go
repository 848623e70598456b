package tree

import "leatwork/api"

// Valid reports whether a tree is valid.
func Valid(t api.Tree) bool {
	count := len(t.Nodes)
	if count < 1 || count > api.MaxNodes || !isIndex(t.Root, count) {
		return false
	}
	for _, n := range t.Nodes {
		if !validNode(n, count) {
			return false
		}
	}
	return true
}

// validNode reports whether a node may be one of count nodes. Fields that its kind does not use must be zero: otherwise equal trees would have different graphs.
func validNode(n api.Node, count int) bool {
	if n.Kind != api.Tuple && len(n.Args) > 0 {
		return false
	}
	switch n.Kind {
	case api.Free:
		return n.Int >= 0 && n.Label == ""
	case api.Int:
		return -api.MaxInt <= n.Int && n.Int <= api.MaxInt && n.Label == ""
	case api.Atom:
		return n.Int == 0 && isAtom(n.Label)
	case api.Tuple:
		return n.Int == 0 && isAtom(n.Label) && validArgs(n.Args, count)
	case api.Name:
		return n.Int >= 0 && isNameLabel(n.Label)
	}
	return false
}

func validArgs(args []int, count int) bool {
	if len(args) < 1 || len(args) > api.MaxArity {
		return false
	}
	for _, a := range args {
		if !isIndex(a, count) {
			return false
		}
	}
	return true
}

func isIndex(n, count int) bool {
	return 0 <= n && n < count
}

func isNameLabel(s string) bool {
	return s == "proc" || s == "cell" || s == "port"
}

func isAtom(s string) bool {
	if s == "|" || s == "#" {
		return true
	}
	if len(s) < 1 || len(s) > api.MaxAtom || !isSmall(s[0]) {
		return false
	}
	for i := range len(s) {
		if !isWordByte(s[i]) {
			return false
		}
	}
	return true
}

func isSmall(c byte) bool {
	return 'a' <= c && c <= 'z'
}

func isDigit(c byte) bool {
	return '0' <= c && c <= '9'
}

// isWordByte reports whether a byte may stand in an atom behind its first one.
func isWordByte(c byte) bool {
	return isSmall(c) || 'A' <= c && c <= 'Z' || isDigit(c) || c == '_'
}
