package store_test

import (
	"math/rand"
	"slices"
	"testing"

	"leatwork/api"
	"leatwork/store"
	"leatwork/tree"
)

// checkTest checks what Test says before a call of Unify.
func checkTest(t *testing.T, title string, s *store.Store, c call) {
	t.Helper()
	want := -1
	if c.e == api.ErrFail {
		want = 0
	} else if len(c.moved) == 0 {
		want = 1
	}
	for _, q := range []equation{{c.a, c.b}, {c.b, c.a}} {
		if k, moved := test(t, s, q[0], q[1]); k != want || !slices.Equal(moved, c.moved) {
			t.Errorf("%s: Test%v = %d, %v, want %d, %v", title, q, k, moved, want, c.moved)
		}
	}
}

func TestTestExamples(t *testing.T) {
	s := built(t, variable(), variable(), tuple("f", 0), tuple("f", 1), tuple("f", 0), integer(1), integer(1), tuple("g", 0, 5), tuple("g", 6, 6), tuple("g", 6, 1))
	for _, x := range []struct {
		a, b, want int
		moved      []int
	}{
		{0, 0, 1, nil},
		{0, 1, -1, []int{1}},
		{2, 3, -1, []int{1}},
		{2, 4, 1, nil}, // the same, and never made equal
		{5, 6, 1, nil},
		{0, 2, -1, []int{0}},
		{2, 5, 0, nil},
		{7, 8, -1, []int{0}},
		{7, 9, -1, []int{0, 1}},
		{8, 9, -1, []int{1}},
	} {
		if k, moved := test(t, s, x.a, x.b); k != x.want || !slices.Equal(moved, x.moved) {
			t.Errorf("Test(%d, %d) = %d, %v, want %d, %v", x.a, x.b, k, moved, x.want, x.moved)
		}
	}
}

// P2.5: Test is 1 exactly if the trees are the same, 0 exactly if Unify fails, and otherwise says what Unify returns.
func TestTestAsUnify(t *testing.T) {
	r := rand.New(rand.NewSource(11))
	count := map[int]int{}
	for range 5000 {
		nodes := randomNodes(r, 8)
		s, m := settled(t, r, nodes, 3)
		for range 3 {
			a, b := r.Intn(len(nodes)), r.Intn(len(nodes))
			k, moved := test(t, s, a, b)
			count[k]++
			same, e := tree.Same(treeOf(t, s, a), treeOf(t, s, b))
			if e != api.OK || same != (k == 1) || same != m.denote(a, b) {
				t.Fatalf("%v: Test(%d, %d) = %d, and the trees are the same: %t", nodes, a, b, k, same)
			}
			got, e := s.Clone().Unify(a, b)
			if (e == api.ErrFail) != (k == 0) || !slices.Equal(got, moved) {
				t.Fatalf("%v: Test(%d, %d) = %d, %v, and Unify = %v, %d", nodes, a, b, k, moved, got, e)
			}
		}
	}
	for _, k := range []int{-1, 0, 1} {
		if count[k] < 500 {
			t.Errorf("Test was %d only %d times", k, count[k])
		}
	}
}

// P2.5: what was 0 or 1 stays so, whatever is made equal or added.
func TestTestStays(t *testing.T) {
	r := rand.New(rand.NewSource(12))
	for range 1000 {
		nodes := randomNodes(r, 7)
		s := built(t, nodes...)
		known := map[equation]int{}
		for range 4 {
			for a := range nodes {
				for b := range nodes {
					k, _, e := s.Test(a, b)
					if e != api.OK {
						t.Fatalf("Test(%d, %d): error %d", a, b, e)
					}
					if was, met := known[equation{a, b}]; met && was != k {
						t.Fatalf("%v: Test(%d, %d) was %d, and is %d", nodes, a, b, was, k)
					}
					if k != -1 {
						known[equation{a, b}] = k
					}
				}
			}
			s.Unify(r.Intn(len(nodes)), r.Intn(len(nodes)))
			s.Tuple("f", []int{r.Intn(len(nodes))})
		}
	}
}
