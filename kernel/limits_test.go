package kernel_test

import (
	"slices"
	"strconv"
	"strings"
	"testing"

	"leatwork/api"
	"leatwork/kernel"
)

// A program has at most MaxStmts statements, also those to which Main does not lead.
func TestMaxStmts(t *testing.T) {
	skips := func(n int) api.Syn { return node("seq", slices.Repeat([]api.Syn{skip}, n)...) }
	dead := func(n int) api.Syn { return node("case", v("X"), node("arm", anyone, skip), skips(n)) }
	for _, x := range []struct {
		tree  api.Syn
		stmts int
	}{
		{skips(1198), 1199}, {skips(1199), 1200}, {skips(1200), 1201}, {skips(100000), 100001},
		{node("thread", skips(1198)), 1200}, {node("thread", skips(1199)), 1201},
		{dead(1198), 1200}, {dead(1199), 1201},
		{node("apply", append([]api.Syn{v("P")}, slices.Repeat([]api.Syn{integer(1)}, 788)...)...), 791},
		{node("seq", node("apply", append([]api.Syn{v("P")}, slices.Repeat([]api.Syn{anyone}, 700)...)...), skips(2).Kids[0], node("thread", skips(493))), 1200},
		{node("seq", node("apply", append([]api.Syn{v("P")}, slices.Repeat([]api.Syn{anyone}, 700)...)...), skips(2).Kids[0], node("thread", skips(494))), 1201},
	} {
		checkSize(t, x.tree, x.stmts, -1)
	}
}

// checkSize checks that a statement has a program with so many statements and variables (unless below 0), or none, if these are too many.
func checkSize(t *testing.T, x api.Syn, stmts, vars int) {
	t.Helper()
	if stmts > 1200 || vars > 800 {
		checkRefused(t, x, xAndP, api.ErrLong)
		return
	}
	p := makeOf(t, x, xAndP...)
	if stmts >= 0 && len(p.Stmts) != stmts || vars >= 0 && len(p.Names) != vars || !kernel.Valid(p) {
		t.Errorf("%.80q: %d statements, %d variables, want %d, %d", shown(x), len(p.Stmts), len(p.Names), stmts, vars)
	}
}

// A program has at most MaxSlots variables, the given ones among them, however they are made.
func TestMaxSlots(t *testing.T) {
	many := func(n int) []api.Syn {
		var out []api.Syn
		for i := range n {
			out = append(out, v("A"+strconv.Itoa(i)))
		}
		return out
	}
	for _, n := range []int{787, 788, 789, 2000, 100000} {
		vars := n + 12
		checkSize(t, node("local", append(many(n), skip)...), 2, vars)
		checkSize(t, node("eq", v("X"), node("let", append(many(n), skip, integer(1))...)), 4, vars)
		checkSize(t, named("proc", "P", append(many(n), skip)...), 2, vars)
		checkSize(t, named("proc", "P", append(slices.Repeat([]api.Syn{anyone}, n), skip)...), 2, vars)
		checkSize(t, named("fun", "P", append(many(n), integer(1))...), 2, vars+1)
		checkSize(t, named("lazy", "P", append(many(n), integer(1))...), 3, vars+1)
		checkSize(t, node("eq", v("P"), node("fn", append(many(n), integer(1))...)), 2, vars+1)
		checkSize(t, node("eq", v("P"), node("pr", append(many(n), skip)...)), 2, vars)
		checkSize(t, node("apply", slices.Repeat([]api.Syn{integer(1)}, n)...), n+3, vars)
		checkSize(t, node("eq", v("X"), node("call", slices.Repeat([]api.Syn{integer(1)}, n)...)), n+3, vars)
		checkSize(t, node("seq", node("local", append(many(n-1), skip)...), node("try", skip, v("E"), skip)), 6, vars)
		checkSize(t, node("seq", node("local", append(many(n-2), skip)...), node("case", v("X"), node("arm", named("tuple", "f", anyone, v("B")), skip), skip)), 6, vars)
		checkSize(t, node("seq", node("local", append(many(n-1), skip)...), node("case", v("X"), node("arm", v("B"), skip), skip)), 8, vars)
		checkSize(t, node("seq", node("local", append(many(n-1), skip)...), node("case", v("X"), node("arm", anyone, skip), node("local", v("B"), skip))), 6, vars)
	}
	long := node("local", append(many(740), skip)...)
	for n := range 51 {
		given := strings.Fields(strings.Repeat("G ", n))
		for i := range given {
			given[i] += strconv.Itoa(i)
		}
		if _, e := kernel.Make(long, given); e != api.OK {
			t.Errorf("Make with %d given names: %d", n, e)
		}
	}
}

// The limits of tuples, atoms, identifiers, integers and levels, at their values and beyond.
func TestOtherLimits(t *testing.T) {
	deep := func(n int) api.Syn {
		x := skip
		for range n - 1 {
			x = node("thread", x)
		}
		return x
	}
	checkSize(t, deep(40), 40, 12)
	checkRefused(t, deep(41), xAndP, api.ErrForm)
	checkRefused(t, deep(5000), xAndP, api.ErrForm)
	for _, n := range []int{8, 9} {
		ones := slices.Repeat([]api.Syn{integer(1)}, n)
		tree := node("eq", v("X"), named("tuple", "f", ones...))
		pattern := node("case", v("X"), node("arm", named("tuple", "f", ones...), skip), skip)
		if n > 8 {
			checkRefused(t, tree, xAndP, api.ErrForm)
			checkRefused(t, pattern, xAndP, api.ErrForm)
			continue
		}
		checkSize(t, tree, 11, 20)
		checkSize(t, pattern, 11, 20)
	}
	for n, want := range map[int]api.Errno{api.MaxInt: api.OK, -api.MaxInt: api.OK, api.MaxInt + 1: api.ErrForm, -api.MaxInt - 1: api.ErrForm} {
		p, e := kernel.Make(node("eq", v("X"), integer(n)), xAndP)
		if e != want || e == api.OK && p.Stmts[0].Int != n {
			t.Errorf("X = %d: %v, %d", n, p, e)
		}
		p, e = kernel.Make(node("case", v("X"), node("arm", integer(n), skip), skip), xAndP)
		if e != want || e == api.OK && p.Stmts[2].Int != n {
			t.Errorf("case X of %d: %v, %d", n, p, e)
		}
	}
	for name, want := range map[string]api.Errno{"Abcdefghijklmnop": api.OK, "Abcdefghijklmnopq": api.ErrForm} {
		if _, e := kernel.Make(node("local", v(name), skip), nil); e != want {
			t.Errorf("local %s: %d", name, e)
		}
	}
	for name, want := range map[string]api.Errno{"abcdefghijklmnop": api.OK, "abcdefghijklmnopq": api.ErrForm} {
		if _, e := kernel.Make(node("eq", v("X"), named("atom", name)), xAndP); e != want {
			t.Errorf("X = %s: %d", name, e)
		}
	}
}

// Syntax trees that are far too large are refused, and their names looked at, in time that grows with their size.
func TestLargeTrees(t *testing.T) {
	big := skip
	for range 18 { // the two kids share their memory, so that making it is fast
		big = node("if", v("X"), big, big)
	}
	checkRefused(t, big, xAndP, api.ErrLong)
	checkRefused(t, big, []string{"P"}, api.ErrName)
	checkRefused(t, node("seq", big, parsed(t, "U = 1")), xAndP, api.ErrName)
	arms := []api.Syn{v("X")}
	for range 100000 {
		arms = append(arms, node("arm", named("tuple", "f", integer(1), v("A")), skip))
	}
	checkRefused(t, node("case", append(arms, skip)...), xAndP, api.ErrLong)
}

// shared is a program of n seqs, each of which has the one before it as both parts, on top of a statement.
func shared(n int, bottom api.Stmt) api.Prog {
	p := progOf("X Y", "A", bottom)
	for i := range n {
		p.Stmts = append(p.Stmts, api.Stmt{Op: "seq", Parts: []int{i, i}})
	}
	p.Stmts = append(p.Stmts, api.Stmt{Op: "local", Vars: []int{12}, Parts: []int{n}})
	p.Main = n + 1
	return p
}

// Programs whose statements are shared so often that looking at each way through them would not end.
func TestSharedStatements(t *testing.T) {
	use := api.Stmt{Op: "op", Vars: []int{10, 12, 6}, Text: "+"}
	p := shared(1198, use)
	checkValid(t, "shared", p, true)
	for s, want := range map[int][]int{0: {6, 10, 12}, 1: {6, 10, 12}, 1198: {6, 10, 12}, 1199: {6, 10}} {
		if got, e := kernel.Free(p, s); e != api.OK || !slices.Equal(got, want) {
			t.Errorf("Free(%d) = %v, %d, want %v", s, got, e, want)
		}
	}
	if ok, e := kernel.Declarative(p); e != api.OK || ok {
		t.Errorf("Declarative = %v, %d", ok, e)
	}
	use.Vars[2] = 7
	if ok, e := kernel.Declarative(shared(1198, use)); e != api.OK || !ok {
		t.Errorf("Declarative = %v, %d", ok, e)
	}
	if got := text(t, p); got != textOf(p) {
		t.Errorf("Text = %.100q ..", got)
	}
	p.Stmts[0].Op = "raise"
	checkValid(t, "shared, malformed at the bottom", p, false)
	p = shared(1198, api.Stmt{Op: "raise", Vars: []int{12}})
	p.Main = 1198
	checkValid(t, "shared, with a variable that is not known", p, false)
	p = shared(1198, api.Stmt{Op: "thread", Parts: []int{1199}})
	checkValid(t, "shared, leading to itself", p, false)
	p = shared(1198, api.Stmt{Op: "thread", Parts: []int{1}})
	p.Main = 0
	checkValid(t, "shared, leading to itself at the bottom", p, false)
}

// A statement that is a part of several ones, also by Make.
func TestPartOfSeveral(t *testing.T) {
	p := program(t, "case X of f(1 2 3 a b) then skip [] g(4 c) then skip else {P X} end", xAndP...)
	count := 0
	for _, s := range p.Stmts {
		count += len(s.Parts)
	}
	if count <= len(p.Stmts) {
		t.Errorf("no statement is a part of several ones: %v", p)
	}
	checkValid(t, "with a rest of several", p, true)
	// Cases within cases, each of whose rests is reached in nine ways.
	source := "skip"
	for range 12 {
		source = "case X of f(1 2 3 4 5 6 7 8) then skip else " + source + " end"
	}
	p = program(t, source, xAndP...)
	checkValid(t, "with many ways", p, true)
	if got, e := kernel.Free(p, p.Main); e != api.OK || !slices.Equal(got, []int{10}) {
		t.Errorf("Free(Main) = %v, %d", got, e)
	}
	proc := "proc {P} " + source + " end"
	p = program(t, proc, xAndP...)
	if last := p.Stmts[p.Main]; !slices.Equal(last.Free, []int{10}) {
		t.Errorf("Free of the proc = %v", last.Free)
	}
}

// Free takes the numbers of statements only, and ErrForm comes before that.
func TestFreeArguments(t *testing.T) {
	p := program(t, "local A in A = X {P A} end", xAndP...)
	for s, want := range [][]int{{10, 12}, {11, 12}, {10, 11, 12}, {10, 11}} {
		if got, e := kernel.Free(p, s); e != api.OK || !slices.Equal(got, want) {
			t.Errorf("Free(%d) = %v, %d, want %v", s, got, e, want)
		}
	}
	for _, s := range []int{-1, 4, 5, 1200, 1 << 40, -1 << 62} {
		if got, e := kernel.Free(p, s); e != api.ErrArg || len(got) > 0 {
			t.Errorf("Free(%d) = %v, %d", s, got, e)
		}
		if got, e := kernel.Free(api.Prog{}, s); e != api.ErrForm || len(got) > 0 {
			t.Errorf("Free(%d) of no program = %v, %d", s, got, e)
		}
	}
	if got, e := kernel.Free(program(t, "skip"), 0); e != api.OK || len(got) > 0 {
		t.Errorf("Free of a skip = %v, %d", got, e)
	}
}

// Declarative of each builtin, by use, by a name that hides it, and of try and choose, wherever they are.
func TestDeclarative(t *testing.T) {
	check := func(source string, want bool) {
		t.Helper()
		p := program(t, source, xAndP...)
		if got, e := kernel.Declarative(p); e != api.OK || got != want {
			t.Errorf("Declarative(%s) = %v, %d", source, got, e)
		}
	}
	for _, name := range strings.Fields(builtinNames) {
		ok := slices.Contains([]string{"Wait", "Label", "Width", "Arg"}, name)
		for _, source := range []string{"{B X}", "X = B", "B = X", "{P B}", "X = f(B)", "proc {P} {B X} end", "fun lazy {P} B end", "if B then skip end", "raise B end", "case B of f(A) then skip end", "proc {B} skip end", "X = B + 1", "thread {B} end", "case X of 1 then {B} end", "X = fun {$ A} {B A} end"} {
			check(strings.ReplaceAll(source, "B", name), ok)
		}
		check("local "+name+" in {"+name+" X} end", true)
		check("proc {P "+name+"} {"+name+" X} end", true)
		check("case X of _ then skip else {"+name+" X} end", true)
	}
	for source, want := range map[string]bool{
		"skip": true, "try skip catch E then skip end": false, "choose skip [] skip end": false,
		"proc {P} try skip catch E then skip end end": false, "proc {P} choose skip [] skip end end": false,
		"thread skip try skip catch E then skip end end": false, "case X of 1 then choose skip [] skip end end": false,
		"case X of _ then skip else choose skip [] skip end end":                  true,
		"case X of A then skip [] 1 then try skip catch E then skip end end":      true,
		"case X of A then {P A} else skip end raise X end thread {P} end":         true,
		"fun lazy {P A} A + 1 end X = {P 1} local F in F = fun {$} {Arg} end end": true,
	} {
		check(source, want)
	}
}
