package kernel_test

import (
	"slices"
	"testing"

	"leatwork/api"
	"leatwork/kernel"
	"leatwork/parse"
)

const everything = "local A B in A = f(X 1 g(B)) {P A B + 1 _} case A of f(1 C a) then {P C} [] D then P = D [] 2 then skip else X = [1 2] end fun lazy {P X _} {P X} end X = fun {$ Y} thread Y + B end end proc {A Q} try raise Q end catch E then {Show E} end end choose if X then skip end [] B = local I J in I = J in I end [] B = if X then proc {$ _} A = B end else 1 end end end"

// lists are the lists of numbers of a program, with all that they have room for.
func lists(p api.Prog) [][]int {
	var out [][]int
	for _, s := range p.Stmts {
		for _, l := range [][]int{s.Vars, s.Parts, s.Free} {
			out = append(out, l[:cap(l)])
		}
	}
	return out
}

// R5: results are new memory, and share none among themselves.
func TestResultsAreNew(t *testing.T) {
	want := program(t, everything, xAndP...)
	seen := map[*int]bool{}
	for range 3 {
		p := program(t, everything, xAndP...)
		if !equal(p, want) {
			t.Fatalf("Make = %v, want %v", p, want)
		}
		for _, l := range lists(p) {
			for i := range l {
				if seen[&l[i]] {
					t.Fatalf("lists share memory")
				}
				seen[&l[i]] = true
			}
		}
		for i := range p.Stmts {
			p.Stmts[i] = api.Stmt{Op: "spoilt"}
		}
		clear(p.Names[:cap(p.Names)])
		for _, l := range lists(p) {
			clear(l)
		}
	}
	for s := range want.Stmts {
		first, _ := kernel.Free(want, s)
		wanted := slices.Clone(first)
		clear(first[:cap(first)])
		if got, e := kernel.Free(want, s); e != api.OK || !slices.Equal(got, wanted) {
			t.Errorf("Free(%d) = %v, %d, want %v", s, got, e, wanted)
		}
	}
	if !kernel.Valid(want) || text(t, want) != textOf(want) {
		t.Errorf("the program has changed: %v", want)
	}
}

// R5: arguments stay as they are, also what slices have room for.
func TestArgumentsStay(t *testing.T) {
	given := []string{"X", "P", "room", "room"}
	x := withRoom(parsed(t, everything))
	before, _ := parse.Print(x)
	p, e := kernel.Make(x, given[:2])
	if after, _ := parse.Print(x); e != api.OK || after != before || !slices.Equal(given, []string{"X", "P", "room", "room"}) {
		t.Errorf("Make changed its arguments: %q, %q, %d", after, given, e)
	}
	checkRoom(t, x)
	given[0] = "Y"
	if p.Names[10] != "X" {
		t.Errorf("Make keeps the given names")
	}
	q := clone(p)
	for i := range q.Stmts {
		s := &q.Stmts[i]
		for _, l := range []*[]int{&s.Vars, &s.Parts, &s.Free} {
			*l = append(*l, 77, 77)[:len(*l)]
		}
	}
	for s := range q.Stmts {
		kernel.Free(q, s)
	}
	kernel.Declarative(q)
	kernel.Text(q)
	if !equal(q, p) {
		t.Errorf("a program changed from %v to %v", p, q)
	}
	for _, s := range q.Stmts {
		for _, l := range [][]int{s.Vars, s.Parts, s.Free} {
			if room := l[len(l) : len(l)+2]; room[0] != 77 || room[1] != 77 {
				t.Errorf("what a list has room for changed to %v", room)
			}
		}
	}
}

// withRoom is a syntax tree whose slices have room for more.
func withRoom(x api.Syn) api.Syn {
	var kids []api.Syn
	for _, k := range x.Kids {
		kids = append(kids, withRoom(k))
	}
	x.Kids = append(kids, node("room"), node("room"))[:len(kids)]
	return x
}

func checkRoom(t *testing.T, x api.Syn) {
	t.Helper()
	for _, k := range x.Kids[len(x.Kids) : len(x.Kids)+2] {
		if k.Kind != "room" {
			t.Errorf("what the kids of a %s have room for changed to %v", x.Kind, k)
		}
	}
	for _, k := range x.Kids {
		checkRoom(t, k)
	}
}

// R4: nil slices and empty ones are the same.
func TestEmptySlices(t *testing.T) {
	x := parsed(t, everything)
	var empty func(x api.Syn) api.Syn
	empty = func(x api.Syn) api.Syn {
		kids := []api.Syn{}
		for _, k := range x.Kids {
			kids = append(kids, empty(k))
		}
		x.Kids = kids
		return x
	}
	p := makeOf(t, x, xAndP...)
	if q := makeOf(t, empty(x), xAndP...); !equal(p, q) {
		t.Errorf("with empty slices: %v, want %v", q, p)
	}
	for i := range p.Stmts {
		s := &p.Stmts[i]
		for _, l := range []*[]int{&s.Vars, &s.Parts, &s.Free} {
			if *l == nil {
				*l = []int{}
			}
		}
	}
	checkValid(t, "with empty slices", p, true)
	if a, b := makeOf(t, skip), makeOf(t, skip, noGiven...); !equal(a, b) {
		t.Errorf("without given names: %v, %v", a, b)
	}
	if p, e := kernel.Make(skip, []string{}); e != api.OK || p.Given != 10 {
		t.Errorf("with no given names: %v, %d", p, e)
	}
}

// R6: a call does not depend on those before it.
func TestCallsAreIndependent(t *testing.T) {
	want := program(t, everything, xAndP...)
	for _, bad := range []string{"U = 1", "local U in U = V end", "X = {P U}"} {
		checkRefused(t, parsed(t, bad), xAndP, api.ErrName)
		checkRefused(t, parsed(t, everything), []string{"X"}, api.ErrName)
		checkRefused(t, parsed(t, bad), []string{"Wait"}, api.ErrArg)
		checkValid(t, "no program", api.Prog{}, false)
		if p := program(t, everything, xAndP...); !equal(p, want) {
			t.Errorf("after %s: %v, want %v", bad, p, want)
		}
	}
}
