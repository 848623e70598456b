package store_test

import (
	"math/rand"
	"slices"
	"testing"

	"leatwork/api"
	"leatwork/store"
)

// change does something to a store that nearly always changes it.
func change(t testing.TB, r *rand.Rand, s *store.Store) {
	t.Helper()
	n := s.Size()
	switch r.Intn(4) {
	case 0:
		grow(t, s, randomNodes(r, 1)...)
	case 1:
		s.Tuple("f", []int{r.Intn(n), r.Intn(n)})
	default:
		s.Unify(r.Intn(n), r.Intn(n))
	}
}

// P2.8 (R8)
func TestClone(t *testing.T) {
	r := rand.New(rand.NewSource(31))
	for range 500 {
		list := []*store.Store{built(t, randomNodes(r, 8)...)}
		states := []string{observed(t, list[0])}
		for range 20 {
			i := r.Intn(len(list))
			if r.Intn(4) == 0 {
				list = append(list, list[i].Clone())
				states = append(states, states[i])
			} else {
				change(t, r, list[i])
				states[i] = observed(t, list[i])
			}
			for i, s := range list {
				if got := observed(t, s); got != states[i] {
					t.Fatalf("a store was\n%s\nand without a call is\n%s", states[i], got)
				}
			}
		}
	}
}

// A clone does what the store does.
func TestCloneGoesOn(t *testing.T) {
	r := rand.New(rand.NewSource(32))
	for range 500 {
		a := built(t, randomNodes(r, 8)...)
		for range 5 {
			change(t, r, a)
		}
		b := a.Clone()
		seed := r.Int63()
		ra, rb := rand.New(rand.NewSource(seed)), rand.New(rand.NewSource(seed))
		for range 10 {
			change(t, ra, a)
			change(t, rb, b)
			if observed(t, a) != observed(t, b) {
				t.Fatalf("the store is\n%s\nand the clone\n%s", observed(t, a), observed(t, b))
			}
		}
	}
}

func TestCloneExamples(t *testing.T) {
	s := built(t, variable(), tuple("f", 0), variable())
	unify(t, s, 0, 2)
	c := s.Clone()
	if moved := unify(t, s, 0, 1); !slices.Equal(moved, []int{0}) {
		t.Errorf("Unify = %v", moved)
	}
	if got := text(t, c, 2); got != "_0" {
		t.Errorf("the clone's node is %s", got)
	}
	grow(t, c, atom("a"))
	if moved := unify(t, c, 2, 3); !slices.Equal(moved, []int{0}) {
		t.Errorf("Unify = %v", moved)
	}
	if got := text(t, c, 1) + text(t, s, 1); got != "f(a)0=f(@0)" || s.Size() != 3 || c.Size() != 4 {
		t.Errorf("the clone and the store are %s, and have %d and %d nodes", got, c.Size(), s.Size())
	}
	grow(t, s, atom("b"), atom("c"))
	grow(t, c, tuple("g", 3))
	if got := text(t, s, 3) + text(t, s, 4) + text(t, c, 3) + text(t, c, 4); got != "bcag(a)" {
		t.Errorf("new nodes are %s", got)
	}
	if e := store.New().Clone(); e == nil || e.Size() != 0 {
		t.Error("the clone of a store without nodes is none")
	}
}

// The limits are those of the clone itself.
func TestCloneFull(t *testing.T) {
	s := full(t, 1)
	c := s.Clone()
	for _, x := range []*store.Store{s, c} {
		if n, e := x.Var(); e != api.OK || n != api.MaxNodes-1 {
			t.Errorf("the last node: %d, %d", n, e)
		}
		if _, e := x.Var(); e != api.ErrFull {
			t.Errorf("one node more: %d", e)
		}
	}
}
