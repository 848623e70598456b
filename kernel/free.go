package kernel

import "leatwork/api"

// roles divides the variables of a statement into those that it uses and those that it makes, and tells in which of its parts these are known.
func roles(s api.Stmt) (used, made []int, part int) {
	switch s.Op {
	case "local":
		return nil, s.Vars, 0
	case "proc", "casetuple":
		return s.Vars[:1], s.Vars[1:], 0
	case "try":
		return nil, s.Vars, 1
	}
	return s.Vars, nil, 0
}

// freeWithin returns the variables that the parts of a statement use and that are not made within it, if those of the parts are known.
func freeWithin(s api.Stmt, free []set) set {
	_, made, known := roles(s)
	var out set
	for i, part := range s.Parts {
		inner := free[part]
		if i == known {
			inner.remove(made...)
		}
		out.join(inner)
	}
	return out
}

// freeOf returns the variables that a statement uses, itself or within its parts, and that are not made within it, if those of the parts are known.
func freeOf(s api.Stmt, free []set) set {
	used, _, _ := roles(s)
	out := freeWithin(s, free)
	out.add(used...)
	out.add(s.Free...)
	return out
}

// freeOfAll returns the free variables of statements that are ordered with parts first.
func freeOfAll(stmts []api.Stmt, order []int) []set {
	free := make([]set, len(stmts))
	for _, i := range order {
		free[i] = freeOf(stmts[i], free)
	}
	return free
}

// putFree puts their Free into all procedures among statements that come after their parts.
func putFree(stmts []api.Stmt) {
	free := make([]set, len(stmts))
	for i := range stmts {
		s := &stmts[i]
		if s.Op == "proc" {
			outside := freeWithin(*s, free)
			s.Free = outside.list()
		}
		free[i] = freeOf(*s, free)
	}
}
