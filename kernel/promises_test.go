package kernel_test

import (
	"math/rand"
	"slices"
	"strings"
	"testing"

	"leatwork/api"
	"leatwork/kernel"
)

// manyPrograms calls check with many random statements and their programs, with the given names X, Y, Z.
func manyPrograms(t *testing.T, seed int64, count int, check func(m maker, x api.Syn, p api.Prog)) {
	t.Helper()
	m := maker{Rand: rand.New(rand.NewSource(seed))}
	given := []string{"X", "Y", "Z"}
	ops, dead := map[string]int{}, 0
	for range count {
		x := m.either(m.Intn(6), given)
		p, e := kernel.Make(x, given)
		if e == api.ErrLong {
			continue
		}
		if e != api.OK {
			t.Fatalf("Make(%s): %d", shown(x), e)
		}
		for _, s := range p.Stmts {
			ops[s.Op]++
		}
		dead += len(p.Stmts) - len(reached(p))
		check(m, x, p)
	}
	if len(ops) != len(rows) || dead < count/20 {
		t.Errorf("the programs have %v, and %d statements to which Main does not lead", ops, dead)
	}
}

// Make is as the model says.
func TestMakeByModel(t *testing.T) {
	errors := map[api.Errno]int{}
	m := maker{Rand: rand.New(rand.NewSource(1)), stray: 12}
	for i := range 20000 {
		given := []string{"X", "Y", "Z"}[:m.Intn(4)]
		if m.stray = 12; i%3 == 0 {
			m.stray = 0
		}
		x := m.either(m.Intn(7)+i%100/99*3, given)
		want, wantErr := translated(x, given)
		got, e := kernel.Make(x, given)
		errors[e]++
		if e != wantErr || !equal(got, want) {
			t.Fatalf("Make(%s) = %v, %d, want %v, %d", shown(x), got, e, want, wantErr)
		}
		if e == api.OK && text(t, got) != textOf(want) {
			t.Fatalf("Text of %s is %q", shown(x), text(t, got))
		}
	}
	if errors[api.OK] < 5000 || errors[api.ErrName] < 1000 || errors[api.ErrLong] < 5 {
		t.Errorf("too few of some errors: %v", errors)
	}
}

// P5.1: what Make returns is valid.
func TestMadeIsValid(t *testing.T) {
	manyPrograms(t, 2, 3000, func(m maker, x api.Syn, p api.Prog) {
		if !kernel.Valid(p) || len(p.Stmts) < 40 && !validByRules(p) {
			t.Fatalf("Make(%s) = %v is not valid", shown(x), p)
		}
	})
}

// P5.2, P5.3: with other names for all variables that are not given, so that none hides another, just Names are other ones.
func TestRenamed(t *testing.T) {
	renamed := 0
	manyPrograms(t, 3, 3000, func(m maker, x api.Syn, p api.Prog) {
		other := (&renamer{}).rename(x, nil)
		q := makeOf(t, other, "X", "Y", "Z")
		if !slices.EqualFunc(p.Stmts, q.Stmts, equalStmts) || p.Main != q.Main || p.Given != q.Given || len(p.Names) != len(q.Names) {
			t.Fatalf("Make(%s) = %v, and %v with other names", shown(x), p, q)
		}
		taken := map[string]bool{}
		for i, name := range p.Names {
			if i < p.Given && q.Names[i] != name || (name == "") != (q.Names[i] == "") {
				t.Fatalf("the names of %s are %q, and %q with other names", shown(x), p.Names, q.Names)
			}
			if name != q.Names[i] {
				renamed++
			}
			if taken[q.Names[i]] {
				t.Fatalf("a name of %s is there twice: %q", shown(other), q.Names)
			}
			taken[q.Names[i]] = q.Names[i] != ""
		}
	})
	if renamed < 1000 {
		t.Errorf("only %d names are other ones", renamed)
	}
}

// P5.4: the Free of Main are given variables, and that of all statements is what a walk along all ways finds.
func TestFreeOfMade(t *testing.T) {
	manyPrograms(t, 4, 2000, func(m maker, x api.Syn, p api.Prog) {
		for s := range p.Stmts {
			got, e := kernel.Free(p, s)
			if e != api.OK || !slices.Equal(got, freeOf(p, s)) {
				t.Fatalf("Free(%s, %d) = %v, %d, want %v", text(t, p), s, got, e, freeOf(p, s))
			}
			if s == p.Main && len(got) > 0 && got[len(got)-1] >= p.Given {
				t.Fatalf("Free of Main of %s is %v", shown(x), got)
			}
		}
	})
}

// P5.5: parts have lesser numbers than what they are parts of; Main is the last statement.
func TestNumbers(t *testing.T) {
	manyPrograms(t, 5, 2000, func(m maker, x api.Syn, p api.Prog) {
		if p.Main != len(p.Stmts)-1 {
			t.Fatalf("Main of %s is %d of %d", shown(x), p.Main, len(p.Stmts))
		}
		for i, s := range p.Stmts {
			if len(s.Parts) > 0 && slices.Max(s.Parts) >= i {
				t.Fatalf("the parts of %d of %s are %v", i, shown(x), s.Parts)
			}
		}
	})
}

// P5.6: a program without try, choose and those builtins is declarative; others are not, if Main leads to these.
func TestDeclarativeOfMade(t *testing.T) {
	count := map[bool]int{}
	manyPrograms(t, 6, 4000, func(m maker, x api.Syn, p api.Prog) {
		got, e := kernel.Declarative(p)
		if e != api.OK || got != declarative(p) {
			t.Fatalf("Declarative(%s) = %v, %d", shown(x), got, e)
		}
		plain := true
		for _, s := range p.Stmts {
			plain = plain && s.Op != "try" && s.Op != "choose" && !slices.ContainsFunc(s.Vars, func(v int) bool { return 1 <= v && v <= 6 })
		}
		if plain && !got {
			t.Fatalf("%s is not declarative", shown(x))
		}
		count[got]++
	})
	if count[true] < 500 || count[false] < 500 {
		t.Errorf("declarative: %v", count)
	}
}

// P5.7: the text has all of the statements.
func TestTextHasAll(t *testing.T) {
	manyPrograms(t, 7, 2000, func(m maker, x api.Syn, p api.Prog) {
		again := clone(p)
		again.Stmts = readText(t, text(t, p))
		if !equal(again, p) {
			t.Fatalf("%s has the text %q, which is read as %v", shown(x), text(t, p), again.Stmts)
		}
	})
	seen := map[string]api.Prog{}
	m := maker{Rand: rand.New(rand.NewSource(8))}
	same := 0
	for range 5000 {
		p := makeOf(t, m.statement(m.Intn(3), xAndP), "X", "P")
		key := text(t, p) + strings.Join(p.Names, " ")
		if q, ok := seen[key]; ok {
			if same++; !equal(p, q) {
				t.Fatalf("%v and %v have the same text", p, q)
			}
		}
		seen[key] = p
	}
	if same < 100 {
		t.Errorf("only %d programs had the text of another one", same)
	}
}

// Each expression that is asked for as a variable could have been put into a local before the statement.
func TestAskedForByHand(t *testing.T) {
	for _, x := range []struct{ source, byHand string }{
		{"{P X + 1}", "local V in local W in W = 1 V = X + W end {P V} end"},
		{"{P 1 X f(2)}", "local V W in V = 1 local U in U = 2 W = f(U) end {P V X W} end"},
		{"raise 1 end", "local V in V = 1 raise V end end"},
		{"if X == P then skip else {P} end", "local V in V = X == P if V then skip else {P} end end"},
		{"X = {P 1}", "local V in V = 1 X = {P V} end"},
		{"{P} = {X}", "local V in V = {P} V = {X} end"},
		{"fun {P A} A + X end", "proc {P A B} B = A + X end"},
		{"P = fun {$ A} {X} end", "P = proc {$ A B} B = {X} end"},
		{"X = if {P} then 1 else _ end", "local V in V = {P} if V then X = 1 else X = _ end end"},
		{"X = local A in A = 1 in f(A) end", "local A in A = 1 X = f(A) end"},
		{"X = thread {P} end", "thread X = {P} end"},
		{"case {P} of f(A) then A = X [] _ then skip else raise X end end", "local V in V = {P} case V of f(A) then A = X [] _ then skip else raise X end end end"},
		{"case X of A then A = P end", "case X of _ then local A in A = X A = P end end"},
	} {
		a, b := program(t, x.source, "X", "P"), program(t, x.byHand, "X", "P")
		if text(t, a) != text(t, b) {
			t.Errorf("%s is %s, and %s is %s", x.source, text(t, a), x.byHand, text(t, b))
		}
	}
}
