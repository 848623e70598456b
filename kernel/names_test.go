package kernel_test

import (
	"slices"
	"strconv"
	"strings"
	"testing"

	"leatwork/api"
	"leatwork/kernel"
)

// Names that stand for no variable, in each place where a name can stand, where U is one.
func TestUnknownNames(t *testing.T) {
	for _, source := range []string{
		"U = 1", "1 = U", "U = X", "X = U", "U = U", "X = f(U)", "X = f(1 g(U))", "X = [X U]", "X = U + 1", "X = 1 + U", "X = 1 * (2 + U)",
		"{U}", "{P U}", "{P 1 f(U)}", "{P {U}}", "{P {P U}}", "X = {U}", "X = {P U}",
		"if U then skip end", "if U == 1 then skip end", "if X then U = 1 end", "if X then skip else U = 1 end",
		"X = if U then 1 else 2 end", "X = if X then U else 2 end", "X = if X then 1 else U end",
		"case U of 1 then skip end", "case f(U) of _ then skip end", "case X of 1 then U = 1 end", "case X of 1 then skip [] 2 then U = 1 end", "case X of 1 then skip else U = 1 end",
		"case X of _ then U = 1 end", "case X of A then A = U end", "case X of f(A) then A = U end", "case X of _ then skip [] _ then U = 1 end", "case X of A then skip else U = 1 end",
		"proc {U} skip end", "proc {U A} A = 1 end", "fun {U} 1 end", "fun lazy {U} 1 end", "proc {P} U = 1 end", "fun {P} U end", "fun lazy {P} U end", "fun {P} {U} end",
		"X = fun {$ A} U end", "X = proc {$} U = 1 end", "X = thread U end", "thread U = 1 end",
		"X = local A in U = A in A end", "X = local A in skip in U end", "local A in A = U end", "skip U = 1", "skip U = 1 skip",
		"try U = 1 catch E then skip end", "try skip catch E then U = E end", "raise U end", "raise f(U) end", "choose U = 1 [] skip end", "choose skip [] skip [] U = 1 end",
	} {
		checkRefused(t, parsed(t, source), xAndP, api.ErrName)
		if p := program(t, source, "X", "P", "U"); !slices.ContainsFunc(p.Stmts, func(s api.Stmt) bool { return slices.Contains(s.Vars, 12) }) {
			t.Errorf("%s does not use U: %v", source, p)
		}
		checkRefused(t, node("thread", node("local", v("A"), parsed(t, source))), xAndP, api.ErrName)
		makeOf(t, node("local", v("U"), parsed(t, source)), xAndP...)
		makeOf(t, named("proc", "X", v("U"), parsed(t, source)), xAndP...)
	}
	// A name that no statement of the program uses must stand for a variable, too.
	checkRefused(t, parsed(t, "case U of _ then skip end"), xAndP, api.ErrName)
	program(t, "case U of _ then skip end", "U")
}

// Names are known only within what makes them known.
func TestWhereNamesAreKnown(t *testing.T) {
	for _, source := range []string{
		"local U in skip end U = 1", "U = 1 local U in skip end", "local A in local U in U = A end A = U end", "if X then local U in skip end else U = 1 end", "{P local U in skip in U end U}", "X = local U in skip in U end + U", "f(U) = local U in skip in U end",
		"proc {P U} skip end {P U}", "fun {U A} A end", "fun {P U} U end X = U", "{P fun {$ U} U end U}", "proc {U U} skip end",
		"case X of U then skip [] _ then X = U end", "case X of U then skip else X = U end", "case X of f(U) then skip [] 1 then X = U end", "case X of f(U) then skip else X = U end", "case X of 1 then X = U [] f(U) then skip end", "case U of U then skip end", "case X of f(U) then skip end X = U",
		"try X = U catch U then skip end", "try skip catch U then skip end X = U", "local A in thread local U in skip end end A = U end",
		"choose local U in skip end [] X = U end",
	} {
		checkRefused(t, parsed(t, source), xAndP, api.ErrName)
		program(t, source, "X", "P", "U")
	}
}

// A variable of an inner local, let, parameter, pattern or try is not the one of the same name outside (P5.3).
func TestHiddenNames(t *testing.T) {
	checkAll(t, []translation{
		{"local X in X = 1 local X in X = 2 end X = 3 end X = 4", "X", "int: 11 1; int: 12 2; local: 12 > 1; int: 11 3; seq: > 0 2 3; local: 11 > 4; int: 10 4; seq: > 5 6", "X X"},
		{"X = local X in X = 1 in X end", "X", "int: 11 1; bind: 10 11; seq: > 0 1; local: 11 > 2", "X"},
		{"{X local X in X = 1 in X end X}", "X", "int: 12 1; bind: 11 12; seq: > 0 1; local: 12 > 2; apply: 10 11 10; seq: > 3 4; local: 11 > 5", "- X"},
		{"proc {X X} X = 1 end X = 2", "X", "int: 11 1; proc: 10 11 > 0; int: 10 2; seq: > 1 2", "X"},
		{"X = fun {$ X} X end", "X", "bind: 12 11; proc: 10 11 12 > 0", "X -"},
		{"X = proc {$ X} X = 1 end", "X", "int: 11 1; proc: 10 11 > 0", "X"},
		{"case X of X then X = 1 else X = 2 end", "X", "int: 10 2; bind: 11 10; int: 11 1; seq: > 1 2; local: 11 > 3", "X"},
		{"case X of f(X) then X = 1 [] 1 then X = 3 else X = 2 end X = 4", "X", "int: 10 2; int: 10 3; caseint: 10 1 > 1 0; int: 11 1; casetuple: 10 11 f > 3 2; int: 10 4; seq: > 4 5", "X"},
		{"try X = 1 catch X then X = 2 end X = 3", "X", "int: 10 1; int: 11 2; try: 11 > 0 1; int: 10 3; seq: > 2 3", "X"},
		{"local Show in {Show 1} end {Show X}", "X", "int: 12 1; apply: 11 12; seq: > 0 1; local: 12 > 2; local: 11 > 3; apply: 6 10; seq: > 4 5", "Show -"},
		{"proc {X Wait} {Wait X} end", "X", "apply: 11 10; proc: 10 11 > 0 / 10", "Wait"},
	})
}

// Each builtin stands for the variable of its number.
func TestBuiltins(t *testing.T) {
	want := strings.Fields(builtinNames)
	if got := kernel.Builtins(); !slices.Equal(got, want) {
		t.Errorf("Builtins = %q", got)
	}
	for i, name := range want {
		translation{"{" + name + " X}", "X", "apply: " + strconv.Itoa(i) + " 10", ""}.check(t)
	}
	first := kernel.Builtins()
	first[0] = "X"
	if got := append(kernel.Builtins()[:2], "Y"); got[0] != "Wait" || kernel.Builtins()[2] != "NewCell" {
		t.Errorf("Builtins changes with what it returned: %q", kernel.Builtins())
	}
}

// Given names that are too many, no identifiers, equal, or those of builtins.
func TestGivenNames(t *testing.T) {
	x := parsed(t, "skip")
	many := func(n int) []string {
		var out []string
		for i := range n {
			out = append(out, "X"+strconv.Itoa(i))
		}
		return out
	}
	for _, n := range []int{0, 1, 49, 50} {
		p := makeOf(t, x, many(n)...)
		if p.Given != 10+n || !slices.Equal(p.Names, append(strings.Fields(builtinNames), many(n)...)) {
			t.Errorf("with %d given names: %v", n, p)
		}
	}
	p, e := kernel.Make(parsed(t, "X0 = X49"), many(50))
	if e != api.OK || text(t, p) != "0 bind: 10 59\n" {
		t.Errorf("X0 = X49: %v, %d", p, e)
	}
	refused := [][]string{many(51), many(1000), {"X", "X"}, {"X", "Y", "X"}, append(many(49), "X0"), {""}, {"X", ""}}
	for _, name := range append(strings.Fields(builtinNames), "x", "_", "_X", "$", "1", "X ", " X", "X Y", "X-", "X'", "Abcdefghijklmnopq", "é", "É", "XÉ", "X\n", "\x00", "if", "|", "#") {
		refused = append(refused, []string{name}, []string{"X", name}, []string{name, "X"})
	}
	for _, given := range refused {
		checkRefused(t, x, given, api.ErrArg)
	}
	for _, name := range []string{"X", "Z", "A", "X1", "X_", "Show1", "SHOW", "If", "Abcdefghijklmnop"} {
		makeOf(t, x, name)
		makeOf(t, x, "X0", name)
	}
}

// The order of the errors of Make, each with each.
func TestOrderOfErrors(t *testing.T) {
	form := v("X")
	arg := []string{"Show"}
	name := parsed(t, "U = 1")
	long := node("seq", slices.Repeat([]api.Syn{skip}, 2000)...)
	slots := node("local")
	for i := range 2000 {
		slots.Kids = append(slots.Kids, v("X"+strconv.Itoa(i)))
	}
	slots.Kids = append(slots.Kids, skip)
	longAndForm := node("seq", append(slices.Clone(long.Kids), form)...)
	nameAndLong := node("seq", name, long.Kids[0], node("thread", long))
	longAndName := node("seq", append(slices.Clone(long.Kids), name)...)
	slotsAndName := node("seq", slots, name)
	nameInSlots := node("local", append(slices.Clone(slots.Kids[:2000]), name)...)
	nameAndForm := node("seq", name, form)
	for _, x := range []struct {
		tree  api.Syn
		given []string
		want  api.Errno
	}{
		{form, nil, api.ErrForm}, {skip, arg, api.ErrArg}, {name, nil, api.ErrName}, {long, nil, api.ErrLong}, {slots, nil, api.ErrLong},
		{form, arg, api.ErrForm}, {nameAndForm, nil, api.ErrForm}, {nameAndForm, arg, api.ErrForm}, {longAndForm, nil, api.ErrForm}, {longAndForm, arg, api.ErrForm},
		{name, arg, api.ErrArg}, {long, arg, api.ErrArg}, {slots, arg, api.ErrArg},
		{nameAndLong, nil, api.ErrName}, {longAndName, nil, api.ErrName}, {slotsAndName, nil, api.ErrName}, {nameInSlots, nil, api.ErrName}, {longAndName, arg, api.ErrArg},
		{slots, []string{"X5"}, api.ErrLong},
	} {
		checkRefused(t, x.tree, x.given, x.want)
	}
}

// Make takes valid syntax trees of statements only.
func TestMakeTakesStatements(t *testing.T) {
	one := integer(1)
	for _, x := range []api.Syn{
		{}, {Kind: "none"}, v("X"), anyone, one, named("atom", "a"), named("tuple", "f", one), named("op", "+", one, one), node("call", v("X")), node("fn", one), node("pr", skip), node("future", one), node("let", v("A"), skip, one), node("cond", one, one, one), node("arm", anyone, skip),
		node("seq"), node("seq", skip), node("seq", skip, node("seq", skip, skip)), node("local", skip), node("local", v("A"), v("A"), skip), node("eq", one), node("eq", one, one, one), node("eq", skip, one), node("if", one, skip), node("if", skip, skip, skip), node("case", v("X"), skip), node("case", v("X"), node("arm", one, one), skip), node("case", v("X"), node("arm", named("tuple", "f", v("A"), v("A")), skip), skip), node("apply"), named("apply", "X", one), named("proc", "x", skip), named("proc", "X", one), named("proc", "X", v("A"), v("A"), skip), named("fun", "X", skip), named("lazy", "", one), node("thread"), node("thread", one), node("try", skip, anyone, skip), node("raise", skip), node("choose", skip),
		{Kind: "skip", Text: "x"}, {Kind: "skip", Int: 1}, node("skip", skip), node("eq", v("x"), one), node("eq", v("X"), integer(api.MaxInt+1)), node("eq", v("X"), named("atom", "X")), node("eq", v("X"), named("tuple", "f")), node("eq", v("X"), named("op", "=", one, one)),
	} {
		checkRefused(t, x, xAndP, api.ErrForm)
	}
	for source, want := range map[string]int{"skip": 1, "skip skip": 3, "local A in skip end": 2, "X = 1": 1, "if X then skip end": 3, "case X of _ then skip else skip end": 2, "{P}": 1, "proc {P} skip end": 2, "fun {P} 1 end": 2, "fun lazy {P} 1 end": 3, "thread skip end": 2, "try skip catch E then skip end": 3, "raise X end": 1, "choose skip [] skip end": 3} {
		if p := program(t, source, xAndP...); len(p.Stmts) != want {
			t.Errorf("%s has %d statements, want %d", source, len(p.Stmts), want)
		}
	}
}
