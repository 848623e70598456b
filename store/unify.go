package store

import (
	"slices"

	"leatwork/api"
)

// Unify makes two nodes equal.
func (s *Store) Unify(a, b int) ([]int, api.Errno) {
	if e := s.checkNodes(a, b); e != api.OK {
		return nil, e
	}
	u := &unification{store: s}
	if !u.run(a, b) {
		u.undo()
		return nil, api.ErrFail
	}
	return u.result(), api.OK
}

// Test tells whether two nodes are equal, different, or neither. They denote the same exactly if they can be made equal without a variable becoming equal to something else.
func (s *Store) Test(a, b int) (int, []int, api.Errno) {
	if e := s.checkNodes(a, b); e != api.OK {
		return 0, nil, e
	}
	u := &unification{store: s}
	possible := u.run(a, b)
	u.undo()
	if !possible {
		return 0, nil, api.OK
	}
	if len(u.moved) == 0 {
		return 1, nil, api.OK
	}
	return -1, u.result(), api.OK
}

// checkNodes returns ErrState, or ErrArg unless all are nodes.
func (s *Store) checkNodes(nodes ...int) api.Errno {
	if !s.made() {
		return api.ErrState
	}
	for _, n := range nodes {
		if !s.has(n) {
			return api.ErrArg
		}
	}
	return api.OK
}

// pair is two nodes that are to be made equal.
type pair struct {
	a, b int
}

// unification makes nodes of a store equal, and can undo it.
type unification struct {
	store  *Store
	open   []pair  // what is left to be done
	before []class // what each class was that has changed, the first change first
	moved  []int   // variables that were their own representatives, and are no more
}

// run makes two nodes equal, and all that follows from that; it reports whether it can be done, and stops as soon as it cannot.
func (u *unification) run(a, b int) bool {
	u.open = append(u.open, pair{a, b})
	for len(u.open) > 0 {
		last := len(u.open) - 1
		p := u.open[last]
		u.open = u.open[:last]
		if !u.join(p) {
			return false
		}
	}
	return true
}

// join makes the nodes of a pair equal, and leaves their arguments to be done. It suffices to look at the representatives: all tuples of a class have equal arguments, or they are left to be done already.
func (u *unification) join(p pair) bool {
	s := u.store
	x, y := s.class(p.a), s.class(p.b)
	if x == y {
		return true
	}
	if !s.isFree(x.rep) && !s.isFree(y.rep) {
		if s.nodes[x.rep].face != s.nodes[y.rep].face {
			return false
		}
		others := s.argsOf(y.rep)
		for i, arg := range s.argsOf(x.rep) {
			u.open = append(u.open, pair{arg, others[i]})
		}
	}
	u.merge(x, y)
	return true
}

// merge makes one class of two.
func (u *unification) merge(x, y class) {
	s := u.store
	if x.size < y.size {
		x, y = y, x
	}
	rep, other := s.leading(x.rep, y.rep)
	if s.isFree(other) {
		u.moved = append(u.moved, other)
	}
	u.before = append(u.before, x, y)
	s.classes[y.top].top = x.top
	s.classes[x.top] = class{top: x.top, rep: rep, size: x.size + y.size}
}

// leading returns, of the representatives of two classes, that of both together, and the other one.
func (s *Store) leading(a, b int) (int, int) {
	if s.isFree(a) != s.isFree(b) {
		if s.isFree(a) {
			return b, a
		}
		return a, b
	}
	return min(a, b), max(a, b)
}

// undo takes all changes back, the last one first.
func (u *unification) undo() {
	for _, c := range slices.Backward(u.before) {
		u.store.classes[c.top] = c
	}
}

// result returns the variables that have got another representative, rising.
func (u *unification) result() []int {
	out := make([]int, len(u.moved))
	copy(out, u.moved)
	slices.Sort(out)
	return out
}
