package parse_test

import (
	"slices"
	"testing"

	"leatwork/api"
	"leatwork/parse"
)

// allKids calls do with all slices of kids within x, with all that they have room for.
func allKids(x api.Syn, do func([]api.Syn)) {
	for _, k := range x.Kids {
		allKids(k, do)
	}
	do(x.Kids[:cap(x.Kids)])
}

// spoil writes to all memory that a syntax tree can reach.
func spoil(x api.Syn) {
	allKids(x, func(kids []api.Syn) {
		for i := range kids {
			kids[i] = node("spoilt")
		}
	})
}

// shares reports whether two slices within a syntax tree share memory: each place is numbered, and each number must stay.
func shares(x api.Syn) bool {
	x = api.Syn{Kids: []api.Syn{x}}
	n, shared := 0, false
	allKids(x, func(kids []api.Syn) {
		for i := range kids {
			shared = shared || kids[i].Int < 0
			n--
			kids[i].Int = n
		}
	})
	return shared
}

// withoutNegatives is a source with no integer below 0, by which shares knows what it has numbered.
const withoutNegatives = "local X Y in X = [1 2 f(Y _ a)] {P X {F Y} fun {$ Z _} Z | nil end} case X of H|T then skip [] f(_ b) then raise a end end case Y of a then skip [] b then skip end if X then {P} end if Y then {P} end choose {P} [] {Q} {R} [] skip end try skip catch E then {P E} {Q} end proc {P X} skip end fun lazy {F X} if X == 1 + 2 * 3 then local Y in skip in thread Y end end else '|'(1 2 3) end end end"

// R5: results are new memory, and share none among themselves.
func TestResultsAreNew(t *testing.T) {
	want := parsed(t, withoutNegatives)
	spoil(parsed(t, withoutNegatives))
	checkRead(t, withoutNegatives, want)
	for _, r := range rows {
		first, _ := readers[isStatement(r.tree)](r.source)
		spoil(first)
		checkRead(t, r.source, r.tree)
	}
	if shares(parsed(t, withoutNegatives)) {
		t.Errorf("the result of Parse shares memory")
	}
	if x := list(v("X")); !shares(tuple("f", x, x)) {
		t.Errorf("a syntax tree shares memory, and is not found to do so")
	}
	seen := map[*api.Syn]bool{}
	for range 3 {
		allKids(parsed(t, withoutNegatives), func(kids []api.Syn) {
			if len(kids) > 0 && seen[&kids[0]] {
				t.Errorf("two results of Parse share memory")
			}
			if len(kids) > 0 {
				seen[&kids[0]] = true
			}
		})
	}
}

// R5: arguments stay as they are, also what slices have room for.
func TestArgumentsStay(t *testing.T) {
	x := parsed(t, withoutNegatives)
	for _, p := range slices.Backward(places(&x)) { // from below, as places move into the new memory
		room := append(p.Kids, node("room"), node("room"))
		p.Kids = room[:len(room)-2]
	}
	before := clone(x)
	checkValid(t, x, true)
	want, _ := parse.Print(x)
	if !equal(x, before) {
		t.Errorf("the argument is %v, and was %v", x, before)
	}
	for _, p := range places(&x) {
		for _, k := range p.Kids[len(p.Kids) : len(p.Kids)+2] {
			if !equal(k, node("room")) {
				t.Errorf("the room behind the kids of %v is %v", p, k)
			}
		}
	}
	checkPrint(t, x, want)
}

// R6: a call does not depend on those before it.
func TestCallsAreIndependent(t *testing.T) {
	for _, r := range rows {
		for _, bad := range []string{"f(", "X = ", "((((", "#", "{P} X"} {
			parse.Parse(bad)
			parse.Expr(bad)
			parse.Print(api.Syn{})
			checkRead(t, r.source, r.tree)
			checkPrint(t, r.tree, r.printed)
		}
	}
}

// R4: nil slices and empty ones are the same.
func TestEmptyKids(t *testing.T) {
	for _, r := range rows {
		x := clone(r.tree)
		for _, p := range places(&x) {
			if len(p.Kids) == 0 {
				p.Kids = []api.Syn{}
			}
		}
		checkValid(t, x, true)
		checkPrint(t, x, r.printed)
	}
}
