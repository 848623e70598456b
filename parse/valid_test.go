package parse_test

import (
	"math/rand"
	"slices"
	"strings"
	"testing"

	"leatwork/api"
	"leatwork/parse"
)

// modelValid reports whether a syntax tree that is not too deep or too long to be read is valid: whether there is a source that is read as it.
func modelValid(x api.Syn) bool {
	source := byForms(x, true)
	for _, read := range readers {
		if got, e := read(source); e == api.OK && equal(got, x) {
			return true
		}
	}
	return false
}

// kinds are all kinds, and strings that are none.
var kinds = strings.Fields("skip seq local eq if case arm apply proc fun lazy thread try raise choose var any int atom tuple op call fn pr future let cond none Skip VAR nil |")

// samples are syntax trees of all kinds.
func samples() []api.Syn {
	out := []api.Syn{{}, arm(v("X"), skip)}
	for _, r := range rows {
		out = append(out, r.tree)
	}
	return out
}

// places returns all syntax trees within x, to be changed.
func places(x *api.Syn) []*api.Syn {
	out := []*api.Syn{x}
	for i := range x.Kids {
		out = append(out, places(&x.Kids[i])...)
	}
	return out
}

// checkChanged checks whether each of the syntax trees is valid that come of changing x at one place.
func checkChanged(t *testing.T, x api.Syn, change func(*api.Syn)) {
	t.Helper()
	for i := range places(&x) {
		y := clone(x)
		change(places(&y)[i])
		checkValid(t, y, modelValid(y))
	}
}

// The syntax trees of the rows, with each other kind, Text, Int, kid, or number of kids at each place.
func TestValidChanged(t *testing.T) {
	texts := []string{"", "x", "X", "|", "#", "_", "+", "==", "if", "nil", "1", " ", "x y", "X Y"}
	ints := []int{-1, 0, 1, api.MaxInt, api.MaxInt + 1, -api.MaxInt - 1}
	for _, r := range rows {
		if !parse.Valid(r.tree) {
			t.Errorf("Valid(%v) = false", r.tree)
		}
		for _, kind := range kinds {
			checkChanged(t, r.tree, func(x *api.Syn) { x.Kind = kind })
		}
		for _, s := range texts {
			checkChanged(t, r.tree, func(x *api.Syn) { x.Text = s })
		}
		for _, n := range ints {
			checkChanged(t, r.tree, func(x *api.Syn) { x.Int = n })
		}
		for _, sample := range samples() {
			checkChanged(t, r.tree, func(x *api.Syn) { *x = clone(sample) })
			checkChanged(t, r.tree, func(x *api.Syn) { x.Kids = append(x.Kids, clone(sample)) })
			checkChanged(t, r.tree, func(x *api.Syn) { x.Kids = append([]api.Syn{clone(sample)}, x.Kids...) })
		}
		checkChanged(t, r.tree, func(x *api.Syn) { x.Kids = x.Kids[:max(0, len(x.Kids)-1)] })
		checkChanged(t, r.tree, func(x *api.Syn) { x.Kids = x.Kids[min(1, len(x.Kids)):] })
		checkChanged(t, r.tree, func(x *api.Syn) { x.Kids = nil })
		checkChanged(t, r.tree, func(x *api.Syn) { x.Kids = []api.Syn{} })
		checkChanged(t, r.tree, func(x *api.Syn) { x.Kids = append(x.Kids, x.Kids...) })
		checkChanged(t, r.tree, func(x *api.Syn) { slices.Reverse(x.Kids) })
	}
}

// All syntax trees of each kind with few kids, of few samples.
func TestValidKids(t *testing.T) {
	few := []api.Syn{v("X"), v("Y"), any1, atom("a"), tuple("f", v("X")), skip, seq(skip, skip), arm(v("X"), skip), apply("P"), call("P")}
	valid := 0
	for _, kind := range kinds {
		texts := []string{""}
		switch kind {
		case "tuple":
			texts = []string{"f", "|"}
		case "op":
			texts = []string{"+", "|", "=<"}
		case "proc", "fun", "lazy", "var":
			texts = []string{"X"}
		case "atom":
			texts = []string{"a"}
		}
		lists := [][]api.Syn{nil}
		for range 4 {
			var longer [][]api.Syn
			for _, kids := range lists {
				for _, s := range texts {
					x := named(kind, s, kids...)
					want := modelValid(x)
					if parse.Valid(x) != want {
						t.Fatalf("Valid(%v), want %v", x, want)
					}
					if want {
						valid++
					}
				}
				for _, k := range few {
					longer = append(longer, append(slices.Clone(kids), k))
				}
			}
			lists = longer
		}
	}
	if valid < 1000 {
		t.Errorf("only %d valid syntax trees", valid)
	}
}

// Random syntax trees, of which a few places are changed.
func TestValidRandom(t *testing.T) {
	m := maker{rand.New(rand.NewSource(4))}
	valid, others := 0, 0
	for range 20000 {
		x := m.either(2 + m.Intn(4))
		for range 1 + m.Intn(2) {
			all := places(&x)
			p := all[m.Intn(len(all))]
			switch m.Intn(7) {
			case 0:
				p.Kind = m.pick(kinds...)
			case 1:
				p.Text = m.pick("", "a", "X", "+", "|", "if")
			case 2:
				p.Int = m.Intn(3) - 1
			case 3:
				p.Kids = slices.Clone(p.Kids[:m.Intn(len(p.Kids)+1)])
			case 4:
				p.Kids = slices.Insert(slices.Clone(p.Kids), m.Intn(len(p.Kids)+1), m.either(3))
			case 5:
				m.Shuffle(len(p.Kids), func(i, j int) { p.Kids[i], p.Kids[j] = p.Kids[j], p.Kids[i] })
			case 6:
				*p = clone(*all[m.Intn(len(all))])
			}
		}
		if depth(x) > api.MaxNest || len(byForms(x, true)) > api.MaxText {
			continue
		}
		want := modelValid(x)
		checkValid(t, x, want)
		if want {
			valid++
		} else {
			others++
		}
	}
	if valid < 2000 || others < 2000 {
		t.Errorf("only %d valid syntax trees and %d others", valid, others)
	}
}

// Fields that a kind does not use are zero.
func TestValidFields(t *testing.T) {
	for _, r := range rows {
		x := r.tree
		if !slices.Contains([]string{"var", "atom", "tuple", "op", "proc", "fun", "lazy"}, x.Kind) {
			for _, s := range []string{"a", "X", "+", " ", "skip"} {
				y := x
				y.Text = s
				checkValid(t, y, false)
			}
		}
		if x.Kind != "int" {
			for _, n := range []int{1, -1, api.MaxInt, 1<<63 - 1, -1 << 63} {
				y := x
				y.Int = n
				checkValid(t, y, false)
			}
		}
		if slices.Contains([]string{"skip", "var", "any", "int", "atom"}, x.Kind) {
			for _, k := range []api.Syn{{}, skip, v("X"), any1} {
				y := x
				y.Kids = []api.Syn{k}
				checkValid(t, y, false)
			}
		}
	}
}

func TestValidTexts(t *testing.T) {
	identifiers := []string{"X", "Y1", "If", "A_b9", "Abcdefghijklmnop"}
	atoms := []string{"a", "b1", "if", "end", "nil", "|", "#", "a_B9", "abcdefghijklmnop"}
	ops := []string{"+", "-", "*", "==", "\\=", "<", "=<", ">", ">="}
	none := []string{"", " ", "X ", " X", "a ", "a b", "1", "1a", "_", "_a", "__", "X-", "a'", "'a'", "é", "aé", "Xé", "\x00", "a\x00", "\xff", "Abcdefghijklmnopq", "abcdefghijklmnopq", strings.Repeat("a", 5000), "||", "##", "=", "=>", "<=", "!=", "/", "++", "+ ", "~", "$", "[]", "(", "%", "\n"}
	all := slices.Concat(identifiers, atoms, ops, none)
	for _, s := range all {
		isIdentifier, isAtom := slices.Contains(identifiers, s), slices.Contains(atoms, s)
		checkWithin(t, v(s), isIdentifier)
		checkWithin(t, atom(s), isAtom)
		checkWithin(t, tuple(s, any1), isAtom)
		checkWithin(t, tuple(s, any1, any1), isAtom)
		checkWithin(t, named("op", s, any1, any1), slices.Contains(ops, s))
		checkValid(t, named("proc", s, skip), isIdentifier)
		checkValid(t, named("fun", s, any1), isIdentifier)
		checkValid(t, named("lazy", s, any1), isIdentifier)
		checkValid(t, named("proc", "P", v(s), skip), isIdentifier)
		checkValid(t, named("fun", "P", v(s), any1), isIdentifier)
		checkValid(t, named("lazy", "P", v(s), any1), isIdentifier)
		checkWithin(t, node("fn", v(s), any1), isIdentifier)
		checkWithin(t, node("pr", v(s), skip), isIdentifier)
		checkValid(t, node("local", v(s), skip), isIdentifier)
		checkValid(t, node("local", v("Z"), v(s), skip), isIdentifier)
		checkWithin(t, node("let", v(s), skip, any1), isIdentifier)
		checkValid(t, node("try", skip, v(s), skip), isIdentifier)
		checkValid(t, node("case", any1, arm(v(s), skip), skip), isIdentifier)
		checkValid(t, node("case", any1, arm(atom(s), skip), skip), isAtom)
		checkValid(t, node("case", any1, arm(tuple(s, any1), skip), skip), isAtom)
		checkValid(t, node("case", any1, arm(tuple("f", v(s)), skip), skip), isIdentifier)
		checkValid(t, node("case", any1, arm(tuple("f", atom(s)), skip), skip), isAtom)
	}
}

func TestValidIntegers(t *testing.T) {
	for n, want := range map[int]bool{0: true, 1: true, -1: true, api.MaxInt: true, -api.MaxInt: true, api.MaxInt - 1: true, api.MaxInt + 1: false, -api.MaxInt - 1: false, 1<<63 - 1: false, -1 << 63: false} {
		checkWithin(t, integer(n), want)
		checkValid(t, node("case", any1, arm(integer(n), skip), skip), want)
		checkValid(t, node("case", any1, arm(tuple("f", integer(n)), skip), skip), want)
	}
}

// What is no statement and no expression, but a part of one.
func TestValidParts(t *testing.T) {
	checkValid(t, api.Syn{}, false)
	checkValid(t, arm(v("X"), skip), false)
	checkValid(t, node("arm"), false)
	checkValid(t, node("case", v("X"), arm(v("X"), skip), skip), true)
	for _, kind := range []string{"none", "Skip", "skip ", " skip", "statement", "expression", "pattern", "list", "|", "in", "end", "catch", "else", "noelse", "\x00"} {
		checkValid(t, node(kind), false)
		checkValid(t, node("thread", node(kind)), false)
		checkWithin(t, tuple("f", node(kind)), false)
	}
}

// Patterns that Parse cannot read, and such with fields that are not used.
func TestValidPatterns(t *testing.T) {
	x := v("X")
	for _, p := range []api.Syn{
		{}, skip, arm(x, skip), call("F"), op("+", x, any1), node("fn", x), node("future", x), node("cond", x, x, x), tuple("f"), tuple("f", x, x), tuple("f", x, any1, x), tuple("f", tuple("g", any1)), tuple("|", x, tuple("|", any1, any1)), list(x, any1),
		tuple("f", call("F")), tuple("f", op("+", x, any1)), tuple("f", skip), tuple("f", api.Syn{}), tuple("X", x), tuple("", x), named("any", "a"), named("int", "1"), {Kind: "any", Int: 1}, {Kind: "var", Text: "X", Int: 1}, {Kind: "atom", Text: "a", Int: 1},
		{Kind: "tuple", Text: "f", Int: 1, Kids: []api.Syn{x}}, tuple("f", slices.Repeat([]api.Syn{any1}, 9)...), named("var", "X", x), named("atom", "a", x), node("any", x), node("int", x), tuple("f", named("any", "a")), tuple("f", node("any", any1)),
	} {
		checkValid(t, node("case", x, arm(p, skip), skip), false)
		checkValid(t, node("case", x, arm(any1, skip), arm(p, skip), skip), false)
	}
	for _, p := range []api.Syn{x, any1, integer(-5), atom("|"), tuple("f", x, v("Y"), any1, any1), tuple("|", x), tuple("|", x, v("Y")), tuple("|", x, v("Y"), v("Z")), list(x), tuple("f", slices.Repeat([]api.Syn{any1}, 8)...)} {
		checkValid(t, node("case", x, arm(p, skip), skip), true)
		checkValid(t, node("case", x, arm(p, skip), arm(p, x), skip), false)
		checkValid(t, node("case", x, arm(p, skip), arm(p, skip), skip), true)
	}
}
