package store_test

import (
	"testing"

	"leatwork/api"
	"leatwork/store"
)

// R1: of a store that no function returned, ErrState comes ahead of all other errors, and nothing changes.
func TestStoreThatNobodyMade(t *testing.T) {
	var none *store.Store
	for _, s := range []*store.Store{none, {}, new(store.Store)} {
		checkNotMade(t, s)
		checkNotMade(t, s)
	}
}

// A copy by assignment is not what New returned: it would share the memory of the store.
func TestCopyByAssignment(t *testing.T) {
	for _, s := range []*store.Store{store.New(), built(t, variable(), tuple("f", 0)), built(t, variable()).Clone()} {
		before := observed(t, s)
		c := *s
		checkNotMade(t, &c)
		if observed(t, s) != before {
			t.Error("calls on the copy changed the store")
		}
	}
}

func checkNotMade(t *testing.T, s *store.Store) {
	t.Helper()
	for _, n := range append(wrongNodes(), variable(), integer(1), atom("a"), tuple("f", 0), name("cell", 0)) {
		if at, e := push(s, n); e != api.ErrState || at != 0 {
			t.Errorf("%v as a new node: %d, %d", n, at, e)
		}
	}
	for _, x := range append(wrongTrees(), parsed(t, "a"), parsed(t, "0=f(@0 _1)")) {
		if at, e := s.Add(x); e != api.ErrState || at != 0 {
			t.Errorf("Add(%v) = %d, %d", x, at, e)
		}
	}
	for _, n := range []int{-1, 0, 1} {
		if l, e := s.Unify(n, 0); e != api.ErrState || len(l) > 0 {
			t.Errorf("Unify = %v, %d", l, e)
		}
		if k, l, e := s.Test(n, n); e != api.ErrState || k != 0 || len(l) > 0 {
			t.Errorf("Test = %d, %v, %d", k, l, e)
		}
		if r, e := s.Rep(n); e != api.ErrState || r != 0 {
			t.Errorf("Rep = %d, %d", r, e)
		}
		if v, e := s.Value(n); e != api.ErrState || !sameFace(v, api.Node{}) || len(v.Args) > 0 {
			t.Errorf("Value = %v, %d", v, e)
		}
		if x, e := s.Tree(n); e != api.ErrState || len(x.Nodes) > 0 || x.Root != 0 {
			t.Errorf("Tree = %v, %d", x, e)
		}
		if l, e := s.Free(n); e != api.ErrState || len(l) > 0 {
			t.Errorf("Free = %v, %d", l, e)
		}
	}
	if s.Size() != 0 || s.Clone() != nil {
		t.Errorf("Size = %d, or Clone returned a store", s.Size())
	}
}
