package tree_test

import (
	"math/rand"
	"strings"
	"testing"

	"leatwork/api"
)

func TestCompareExamples(t *testing.T) {
	rising := []string{
		"_0", "_1", "_10", "-10", "-1", "0", "2", "10",
		"#", "a", "aB", "a_", "aa", "ab", "b", "|",
		"#(a)", "f(_0)", "f(1)", "f(a)", "f(f(a))", "0=f(@0)", "g(_0)", "|(1)", "f(_0 _0)", "f(1 2)", "(1|2)", "f(1 1 1)",
		"<cell 1>", "<cell 2>", "<port 0>", "<proc 0>", "<proc 1>", "<proc 10>",
	}
	for i, a := range rising {
		for j, b := range rising {
			want := 0
			if i < j {
				want = -1
			} else if i > j {
				want = 1
			}
			if got := compare(t, parsed(t, a), parsed(t, b)); got != want {
				t.Errorf("Compare(%s, %s) = %d, want %d", a, b, got, want)
			}
		}
	}
}

func TestCompareByDepth(t *testing.T) {
	for _, x := range []struct{ less, more string }{
		{"g(f(b) a)", "g(f(a) b)"},                       // what is less deep comes first
		{"g(f(a) f(b))", "g(f(b) f(a))"},                 // of the same depth, what is on the left
		{"g(f(a) f(b) c)", "g(f(a) f(c) c)"},             // and then what is on the right of that
		{"g(h(f(b)) h(a))", "g(h(f(a)) h(f(a)))"},        // the second argument differs less deep
		{"f(f(f(a)) 1)", "f(f(f(_1)) 2)"},                // the integers are less deep than what is lesser
		{"g(f(a a) f(b) f(a))", "g(f(a a) f(b) f(a a))"}, // fewer arguments
		{"f(f(f(f(a))))", "0=f(@0)"},
		{"h(1=f(@1 a) _1)", "h(1=f(@1 b) _1)"},
	} {
		a, b := parsed(t, x.less), parsed(t, x.more)
		if compare(t, a, b) != -1 || compare(t, b, a) != 1 || compare(t, a, a) != 0 || compare(t, b, b) != 0 {
			t.Errorf("Compare(%s, %s) = %d, %d", x.less, x.more, compare(t, a, b), compare(t, b, a))
		}
	}
}

// firstDifference compares all places of a depth before those of the next one, without leaving any out.
func firstDifference(a, b api.Tree) int {
	places := [][2]int{{a.Root, b.Root}}
	for range len(a.Nodes) + len(b.Nodes) {
		var below [][2]int
		for _, p := range places {
			n, m := a.Nodes[p[0]], b.Nodes[p[1]]
			for _, c := range []int{n.Kind - m.Kind, len(n.Args) - len(m.Args), strings.Compare(n.Label, m.Label), n.Int - m.Int} {
				if c < 0 {
					return -1
				}
				if c > 0 {
					return 1
				}
			}
			for i := range n.Args {
				below = append(below, [2]int{n.Args[i], m.Args[i]})
			}
		}
		places = below
	}
	return 0
}

// P1.5
func TestCompareIsOrder(t *testing.T) {
	r := rand.New(rand.NewSource(31))
	for range 30000 {
		a, b, c := randomGraph(r, 4), randomGraph(r, 4), randomGraph(r, 4)
		if r.Intn(4) == 0 {
			b = mixed(r, a)
			if len(b.Nodes) > 4 {
				b = least(t, b)
			}
			b.Nodes[r.Intn(len(b.Nodes))] = randomNode(r, len(b.Nodes))
		}
		ab, bc := compare(t, a, b), compare(t, b, c)
		if want := firstDifference(a, b); ab != want || compare(t, b, a) != -want || same(t, a, b) != (want == 0) {
			t.Fatalf("Compare(%v, %v) = %d, want %d", a, b, ab, want)
		}
		if ac := compare(t, a, c); ab == bc && ac != ab || ab == 0 && ac != bc || bc == 0 && ac != ab {
			t.Fatalf("Compare is not transitive: %v, %v, %v", a, b, c)
		}
	}
}

// leaps is a graph in which the node i is f of the nodes i+left and i+right, as far as there are such.
func leaps(count, left, right int, last string) api.Tree {
	var x api.Tree
	for i := range count - 2 {
		x.Nodes = append(x.Nodes, tuple("f", i+left, i+right))
	}
	x.Nodes = append(x.Nodes, atom(last), atom(last))
	return x
}

// Many pairs of nodes meet before the first difference is found.
func TestCompareLargeGraphs(t *testing.T) {
	const most = api.MaxNodes
	a, b := leaps(most, 1, 2, "a"), leaps(most, 2, 1, "a")
	if got := compare(t, a, b); got == 0 || compare(t, b, a) != -got {
		t.Errorf("Compare = %d, %d", got, compare(t, b, a))
	}
	if compare(t, a, leaps(most, 1, 2, "b")) != -1 || compare(t, a, clone(a)) != 0 {
		t.Error("Compare of large graphs")
	}
	x, y := chain(most, tuple("g", 0)), chain(most-1, tuple("g", 0))
	if compare(t, x, y) != -1 || compare(t, y, x) != 1 { // f comes before g, at the depth most-2
		t.Errorf("Compare of rings = %d, %d", compare(t, x, y), compare(t, y, x))
	}
	if compare(t, chain(most, tuple("f", 0)), chain(most-1, tuple("f", 0))) != 0 {
		t.Error("Compare of rings that are the same")
	}
}
