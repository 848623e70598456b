package kernel_test

import (
	"testing"

	"leatwork/api"
)

// The examples of the chapter.
func TestExamples(t *testing.T) {
	checkAll(t, []translation{
		{"X = 1", "X", "int: 10 1", ""},
		{"{P X + 1}", "P X", "int: 13 1; op: 12 11 13 +; seq: > 0 1; local: 13 > 2; apply: 10 12; seq: > 3 4; local: 12 > 5", "- -"},
	})
	if p := program(t, "X = 1", "X"); p.Given != 11 || len(p.Names) != 11 {
		t.Errorf("X = 1: %v", p)
	}
	checkRefused(t, parsed(t, "Y = 2"), nil, api.ErrName)
}

// Statements that stay as they are, and locals.
func TestPlainStatements(t *testing.T) {
	checkAll(t, []translation{
		{"", "", "skip:", ""},
		{"skip", "X Y", "skip:", ""},
		{"skip X = 1 skip", "X", "skip:; int: 10 1; skip:; seq: > 0 1 2", ""},
		{"thread X = 1 end", "X", "int: 10 1; thread: > 0", ""},
		{"thread skip X = 1 end", "X", "skip:; int: 10 1; seq: > 0 1; thread: > 2", ""},
		{"choose X = 1 [] skip [] X = a end", "X", "int: 10 1; skip:; atom: 10 a; choose: > 0 1 2", ""},
		{"if X then skip else X = 1 end", "X", "skip:; int: 10 1; if: 10 > 0 1", ""},
		{"if X then skip end", "X", "skip:; skip:; if: 10 > 0 1", ""},
		{"raise X end", "X", "raise: 10", ""},
		{"local A B in A = B end", "", "bind: 10 11; local: 10 11 > 0", "A B"},
		{"local A in local B in A = B end end local C in C = X end", "X", "bind: 11 12; local: 12 > 0; local: 11 > 1; bind: 13 10; local: 13 > 3; seq: > 2 4", "A B C"},
		{"local A in skip A = 1 end", "", "skip:; int: 10 1; seq: > 0 1; local: 10 > 2", "A"},
	})
}

// What is put into x for each kind of expression.
func TestPut(t *testing.T) {
	checkAll(t, []translation{
		{"X = Y", "X Y", "bind: 10 11", ""},
		{"X = X", "X", "bind: 10 10", ""},
		{"X = Show", "X", "bind: 10 6", ""},
		{"X = _", "X", "skip:", ""},
		{"X = 0", "X", "int: 10 0", ""},
		{"X = ~5", "X", "int: 10 -5", ""},
		{"X = a", "X", "atom: 10 a", ""},
		{"X = '|'", "X", "atom: 10 |", ""},
		{"X = 'if'", "X", "atom: 10 if", ""},
		{"X = f(Y X)", "X Y", "tuple: 10 11 10 f", ""},
		{"X = Y | X", "X Y", "tuple: 10 11 10 |", ""},
		{"X = [Y]", "X Y", "atom: 12 nil; tuple: 10 11 12 |; seq: > 0 1; local: 12 > 2", "-"},
		{"X = Y + X", "X Y", "op: 10 11 10 +", ""},
		{"X = {Y}", "X Y", "apply: 11 10", ""},
		{"X = {Y X Y}", "X Y", "apply: 11 10 11 10", ""},
		{"X = fun {$} Y end", "X Y", "bind: 12 11; proc: 10 12 > 0 / 11", "-"},
		{"X = proc {$} skip end", "X", "skip:; proc: 10 > 0", ""},
		{"X = thread Y end", "X Y", "bind: 10 11; thread: > 0", ""},
		{"X = local A in A = Y in A end", "X Y", "bind: 12 11; bind: 10 12; seq: > 0 1; local: 12 > 2", "A"},
		{"X = local A B in skip A = Y in f(A B) end", "X Y", "skip:; bind: 12 11; seq: > 0 1; tuple: 10 12 13 f; seq: > 2 3; local: 12 13 > 4", "A B"},
		{"X = if Y then 1 else a end", "X Y", "int: 10 1; atom: 10 a; if: 11 > 0 1", ""},
		{"X = if Y then if X then 1 else 2 end else {Y} end", "X Y", "int: 10 1; int: 10 2; if: 10 > 0 1; apply: 11 10; if: 11 > 2 3", ""},
	})
	for _, op := range []string{"+", "-", "*", "==", `\=`, "<", "=<", ">", ">="} {
		translation{"X = Y " + op + " X", "X Y", "op: 10 11 10 " + op, ""}.check(t)
	}
}

// An eq with a var on the left, on the right, on both sides and on none.
func TestEquations(t *testing.T) {
	checkAll(t, []translation{
		{"X = Y", "X Y", "bind: 10 11", ""},
		{"Y = X", "X Y", "bind: 11 10", ""},
		{"X = f(Y)", "X Y", "tuple: 10 11 f", ""},
		{"f(Y) = X", "X Y", "tuple: 10 11 f", ""},
		{"f(1) = X", "X", "int: 11 1; tuple: 10 11 f; seq: > 0 1; local: 11 > 2", "-"},
		{"_ = X", "X", "skip:", ""},
		{"{P} = X", "X P", "apply: 11 10", ""},
		{"1 = 2", "", "int: 10 1; int: 10 2; seq: > 0 1; local: 10 > 2", "-"},
		{"_ = _", "", "skip:; skip:; seq: > 0 1; local: 10 > 2", "-"},
		{"f(1) = g(2)", "", "int: 11 1; tuple: 10 11 f; seq: > 0 1; local: 11 > 2; int: 12 2; tuple: 10 12 g; seq: > 4 5; local: 12 > 6; seq: > 3 7; local: 10 > 8", "- - -"},
		{"{P} = X + Y", "P X Y", "apply: 10 13; op: 13 11 12 +; seq: > 0 1; local: 13 > 2", "-"},
	})
}

// Expressions that are asked for as variables: none, one, several, nested, some of them variables already.
func TestAskedFor(t *testing.T) {
	checkAll(t, []translation{
		{"{P X P}", "P X", "apply: 10 11 10", ""},
		{"{P}", "P", "apply: 10", ""},
		{"{P 1}", "P", "int: 11 1; apply: 10 11; seq: > 0 1; local: 11 > 2", "-"},
		{"{P _}", "P", "skip:; apply: 10 11; seq: > 0 1; local: 11 > 2", "-"},
		{"{P _ _}", "P", "skip:; skip:; apply: 10 11 12; seq: > 0 1 2; local: 11 12 > 3", "- -"},
		{"{P 1 X a}", "P X", "int: 12 1; atom: 13 a; apply: 10 12 11 13; seq: > 0 1 2; local: 12 13 > 3", "- -"},
		{"{a 1}", "", "atom: 10 a; int: 11 1; apply: 10 11; seq: > 0 1 2; local: 10 11 > 3", "- -"},
		{"{P f(1) g(2)}", "P", "int: 13 1; tuple: 11 13 f; seq: > 0 1; local: 13 > 2; int: 14 2; tuple: 12 14 g; seq: > 4 5; local: 14 > 6; apply: 10 11 12; seq: > 3 7 8; local: 11 12 > 9", "- - - -"},
		{"{{P X} X}", "P X", "apply: 10 11 12; apply: 12 11; seq: > 0 1; local: 12 > 2", "-"},
		{"{proc {$ A} skip end X}", "X", "skip:; proc: 11 12 > 0; apply: 11 10; seq: > 1 2; local: 11 > 3", "- A"},
		{"X = [1 2]", "X", "int: 11 1; int: 13 2; atom: 14 nil; tuple: 12 13 14 |; seq: > 1 2 3; local: 13 14 > 4; tuple: 10 11 12 |; seq: > 0 5 6; local: 11 12 > 7", "- - - -"},
		{"X = 1 + 2 * X", "X", "int: 11 1; int: 13 2; op: 12 13 10 *; seq: > 1 2; local: 13 > 3; op: 10 11 12 +; seq: > 0 4 5; local: 11 12 > 6", "- - -"},
		{"X = {P 1 X}", "P X", "int: 12 1; apply: 10 12 11 11; seq: > 0 1; local: 12 > 2", "-"},
		{"X = {{P} {P}}", "P X", "apply: 10 12; apply: 10 13; apply: 12 13 11; seq: > 0 1 2; local: 12 13 > 3", "- -"},
		{"if X == 1 then X = a else skip end", "X", "int: 12 1; op: 11 10 12 ==; seq: > 0 1; local: 12 > 2; atom: 10 a; skip:; if: 11 > 4 5; seq: > 3 6; local: 11 > 7", "- -"},
		{"if true then {P 1} else skip end", "P", "atom: 11 true; int: 12 1; apply: 10 12; seq: > 1 2; local: 12 > 3; skip:; if: 11 > 4 5; seq: > 0 6; local: 11 > 7", "- -"},
		{"raise f(X) end", "X", "tuple: 11 10 f; raise: 11; seq: > 0 1; local: 11 > 2", "-"},
		{"raise _ end", "", "skip:; raise: 10; seq: > 0 1; local: 10 > 2", "-"},
		{"X = if {P} then 1 else 2 end", "P X", "apply: 10 12; int: 11 1; int: 11 2; if: 12 > 1 2; seq: > 0 3; local: 12 > 4", "-"},
		{"case {P} of 1 then skip else {P 2} end", "P", "apply: 10 11; int: 12 2; apply: 10 12; seq: > 1 2; local: 12 > 3; skip:; caseint: 11 1 > 5 4; seq: > 0 6; local: 11 > 7", "- -"},
		{"case f(1) of _ then skip X = 1 else skip end", "X", "int: 12 1; tuple: 11 12 f; seq: > 0 1; local: 12 > 2; skip:; skip:; int: 10 1; seq: > 5 6; seq: > 3 7; local: 11 > 8", "- -"},
		{"thread {P 1} end", "P", "int: 11 1; apply: 10 11; seq: > 0 1; local: 11 > 2; thread: > 3", "-"},
		{"{P thread 1 end}", "P", "int: 11 1; thread: > 0; apply: 10 11; seq: > 1 2; local: 11 > 3", "-"},
		{"{P local A in A = 1 in A end fun {$ B} B end}", "P", "int: 13 1; bind: 11 13; seq: > 0 1; local: 13 > 2; bind: 15 14; proc: 12 14 15 > 4; apply: 10 11 12; seq: > 3 5 6; local: 11 12 > 7", "- - A B -"},
	})
}

// Procedures of all kinds, with their parameters and their last ones.
func TestProcedures(t *testing.T) {
	checkAll(t, []translation{
		{"proc {P} skip end", "P", "skip:; proc: 10 > 0", ""},
		{"proc {P A B} A = B end", "P", "bind: 11 12; proc: 10 11 12 > 0", "A B"},
		{"proc {P _ A _} {P A} end", "P", "apply: 10 12; proc: 10 11 12 13 > 0 / 10", "- A -"},
		{"proc {P P} P = 1 end", "P", "int: 11 1; proc: 10 11 > 0", "P"},
		{"fun {P P} P end", "P", "bind: 12 11; proc: 10 11 12 > 0", "P -"},
		{"fun lazy {P P} P end", "P", "bind: 12 11; need: 12 > 0; proc: 10 11 12 > 1", "P -"},
		{"fun {P} 1 end", "P", "int: 11 1; proc: 10 11 > 0", "-"},
		{"fun {P _ A} f(A X 1) end", "P X", "int: 15 1; tuple: 14 13 11 15 f; seq: > 0 1; local: 15 > 2; proc: 10 12 13 14 > 3 / 11", "- A - -"},
		{"fun lazy {P} 1 end", "P", "int: 11 1; need: 11 > 0; proc: 10 11 > 1", "-"},
		{"fun lazy {P A _} {P A} + 1 end", "P", "apply: 10 11 14; int: 15 1; op: 13 14 15 +; seq: > 0 1 2; local: 14 15 > 3; need: 13 > 4; proc: 10 11 12 13 > 5 / 10", "A - - - -"},
		{"X = fun {$ A _} A end", "X", "bind: 13 11; proc: 10 11 12 13 > 0", "A - -"},
		{"X = proc {$ _ A} A = X end", "X", "bind: 12 10; proc: 10 11 12 > 0 / 10", "- A"},
		{"proc {P A} proc {X B} A = B end end", "P X", "bind: 12 13; proc: 11 13 > 0 / 12; proc: 10 12 > 1 / 11", "A B"},
		{"proc {P} local A in A = X {P A Y} end end", "P X Y", "bind: 13 11; apply: 10 13 12; seq: > 0 1; local: 13 > 2; proc: 10 > 3 / 10 11 12", "A"},
		{"local F in fun {F A} {F A} end end", "", "apply: 10 11 12; proc: 10 11 12 > 0 / 10; local: 10 > 1", "F A -"},
		{"proc {P} {Show X} end", "P X", "apply: 6 11; proc: 10 > 0 / 6 11", ""},
		{"proc {Show} skip end", "", "skip:; proc: 6 > 0", ""},
	})
}

// Cases with arms of each kind of pattern, and the order in which they and the rest are translated.
func TestCases(t *testing.T) {
	checkAll(t, []translation{
		{"case X of 1 then X = a end", "X", "atom: 11 noelse; raise: 11; seq: > 0 1; local: 11 > 2; atom: 10 a; caseint: 10 1 > 4 3", "-"},
		{"case X of 0 then skip else X = 1 end", "X", "int: 10 1; skip:; caseint: 10 0 > 1 0", ""},
		{"case X of a then skip else X = 1 end", "X", "int: 10 1; skip:; caseatom: 10 a > 1 0", ""},
		{"case X of '|' then skip [] ~3 then X = 2 else X = 1 end", "X", "int: 10 1; int: 10 2; caseint: 10 -3 > 1 0; skip:; caseatom: 10 | > 3 2", ""},
		{"case X of _ then skip else X = 1 end", "X", "int: 10 1; skip:", ""},
		{"case X of Y then X = Y else X = 1 end", "X", "int: 10 1; bind: 11 10; bind: 10 11; seq: > 1 2; local: 11 > 3", "Y"},
		{"case X of f(_) then skip else X = 1 end", "X", "int: 10 1; skip:; casetuple: 10 11 f > 1 0", "-"},
		{"case X of H | T then H = T else X = 1 end", "X", "int: 10 1; bind: 11 12; casetuple: 10 11 12 | > 1 0", "H T"},
		{"case X of f(1 A b _ 2) then A = X else X = 1 end", "X", "int: 10 1; bind: 12 10; caseint: 15 2 > 1 0; caseatom: 13 b > 2 0; caseint: 11 1 > 3 0; casetuple: 10 11 12 13 14 15 f > 4 0", "- A - - -"},
		{"case X of f(A) then A = 1 [] g(A) then A = 2 [] 3 then skip else skip end", "X", "skip:; skip:; caseint: 10 3 > 1 0; int: 11 2; casetuple: 10 11 g > 3 2; int: 12 1; casetuple: 10 12 f > 5 4", "A A"},
		{"case X of a then skip [] _ then X = 1 [] b then X = 2 [] Y then X = 3 [] f(Z) then Z = 4 else X = 5 end", "X", "int: 10 5; int: 11 4; casetuple: 10 11 f > 1 0; bind: 12 10; int: 10 3; seq: > 3 4; local: 12 > 5; int: 10 2; caseatom: 10 b > 7 6; int: 10 1; skip:; caseatom: 10 a > 10 9", "Z Y"},
		{"case X of Y then skip [] _ then X = 1 else skip X = 2 end", "X", "skip:; int: 10 2; seq: > 0 1; int: 10 1; bind: 11 10; skip:; seq: > 4 5; local: 11 > 6", "Y"},
		{"case X of _ then skip X = 1 end", "X", "atom: 11 noelse; raise: 11; seq: > 0 1; local: 11 > 2; skip:; int: 10 1; seq: > 4 5", "-"},
		{"case X of f(1 2) then {P 1} [] f(3 A) then {P 2} else {P 3} end", "X P", "int: 12 3; apply: 11 12; seq: > 0 1; local: 12 > 2; int: 15 2; apply: 11 15; seq: > 4 5; local: 15 > 6; caseint: 13 3 > 7 3; casetuple: 10 13 14 f > 8 3; int: 18 1; apply: 11 18; seq: > 10 11; local: 18 > 12; caseint: 17 2 > 13 9; caseint: 16 1 > 14 9; casetuple: 10 16 17 f > 15 9", "- - A - - - -"},
	})
}

// A try makes its variable behind its first part, where it comes up.
func TestTry(t *testing.T) {
	checkAll(t, []translation{
		{"try skip catch E then skip end", "", "skip:; skip:; try: 10 > 0 1", "E"},
		{"try raise X end catch X then {P X} end", "X P", "raise: 10; apply: 11 12; try: 12 > 0 1", "X"},
		{"try {P 1} catch E then {P 2 E} end", "P", "int: 11 1; apply: 10 11; seq: > 0 1; local: 11 > 2; int: 13 2; apply: 10 13 12; seq: > 4 5; local: 13 > 6; try: 12 > 3 7", "- E -"},
	})
}

// What several sentences of the translation say together.
func TestTogether(t *testing.T) {
	checkAll(t, []translation{
		{"local F in fun lazy {F X} X * 2 end Y = {F 3} end Z = Y + 1", "Y Z", "int: 15 2; op: 14 13 15 *; seq: > 0 1; local: 15 > 2; need: 14 > 3; proc: 12 13 14 > 4; int: 16 3; apply: 12 16 10; seq: > 6 7; local: 16 > 8; seq: > 5 9; local: 12 > 10; int: 17 1; op: 11 10 17 +; seq: > 12 13; local: 17 > 14; seq: > 11 15", "F X - - - -"},
		{"fun {Append L M} local R in case L of H|T then R = H | {Append T M} else R = M end in R end end", "Append", "bind: 14 12; apply: 10 16 12 17; tuple: 14 15 17 |; seq: > 1 2; local: 17 > 3; casetuple: 11 15 16 | > 4 0; bind: 13 14; seq: > 5 6; local: 14 > 7; proc: 10 11 12 13 > 8 / 10", "L M - R H T -"},
	})
}
