package parse_test

import (
	"strings"
	"testing"

	"leatwork/api"
)

// row is a source, its syntax tree, and how that is printed.
type row struct {
	source  string
	tree    api.Syn
	printed string
}

// rows are the rows of both tables.
var rows = []row{
	{"skip", skip, "skip"},
	{"skip{P}X=1", seq(skip, apply("P"), eq(v("X"), integer(1))), "skip { P } X = 1"},
	{"local X in skip end", node("local", v("X"), skip), "local X in skip end"},
	{"local X Y Z in {P X} {Q Y} end", node("local", v("X"), v("Y"), v("Z"), seq(apply("P", v("X")), apply("Q", v("Y")))), "local X Y Z in { P X } { Q Y } end"},
	{"X=Y", eq(v("X"), v("Y")), "X = Y"},
	{"f(X)=_", eq(tuple("f", v("X")), any1), "f ( X ) = _"},
	{"if B then {P} else {Q} skip end", node("if", v("B"), apply("P"), seq(apply("Q"), skip)), "if B then { P } else { Q } skip end"},
	{"if B then {P} end", node("if", v("B"), apply("P"), skip), "if B then { P } else skip end"},
	{"case L of H|T then {P} [] _ then skip else {Q} end", node("case", v("L"), arm(tuple("|", v("H"), v("T")), apply("P")), arm(any1, skip), apply("Q")), "case L of ( H | T ) then { P } [] _ then skip else { Q } end"},
	{"case L of a then {P} {Q} end", node("case", v("L"), arm(atom("a"), seq(apply("P"), apply("Q"))), noElse), "case L of a then { P } { Q } else raise noelse end end"},
	{"{P}", apply("P"), "{ P }"},
	{"{P X 1 {F}}", apply("P", v("X"), integer(1), call("F")), "{ P X 1 { F } }"},
	{"proc {P} skip end", named("proc", "P", skip), "proc { P } skip end"},
	{"proc {P X _ Y _} {Q} {R} end", named("proc", "P", v("X"), any1, v("Y"), any1, seq(apply("Q"), apply("R"))), "proc { P X _ Y _ } { Q } { R } end"},
	{"fun {F} 1 end", named("fun", "F", integer(1)), "fun { F } 1 end"},
	{"fun {F X _} X+1 end", named("fun", "F", v("X"), any1, op("+", v("X"), integer(1))), "fun { F X _ } ( X + 1 ) end"},
	{"fun lazy {F} 1 end", named("lazy", "F", integer(1)), "fun lazy { F } 1 end"},
	{"fun lazy {F _ X} X|{F X} end", named("lazy", "F", any1, v("X"), tuple("|", v("X"), call("F", v("X")))), "fun lazy { F _ X } ( X | { F X } ) end"},
	{"thread {P} {Q} end", node("thread", seq(apply("P"), apply("Q"))), "thread { P } { Q } end"},
	{"try {P} {Q} catch E then {R E} skip end", node("try", seq(apply("P"), apply("Q")), v("E"), seq(apply("R", v("E")), skip)), "try { P } { Q } catch E then { R E } skip end"},
	{"raise f(X) end", node("raise", tuple("f", v("X"))), "raise f ( X ) end"},
	{"choose skip [] {P} end", node("choose", skip, apply("P")), "choose skip [] { P } end"},
	{"choose {P} {Q} [] skip [] X=1 Y=2 end", node("choose", seq(apply("P"), apply("Q")), skip, seq(eq(v("X"), integer(1)), eq(v("Y"), integer(2)))), "choose { P } { Q } [] skip [] X = 1 Y = 2 end"},
	{"X", v("X"), "X"},
	{"_", any1, "_"},
	{"0", integer(0), "0"},
	{"~3", integer(-3), "~3"},
	{"1099511627776", integer(api.MaxInt), "1099511627776"},
	{"~1099511627776", integer(-api.MaxInt), "~1099511627776"},
	{"a", atom("a"), "a"},
	{"'|'", atom("|"), "'|'"},
	{"'#'", atom("#"), "'#'"},
	{"'if'", atom("if"), "'if'"},
	{"'b'", atom("b"), "b"},
	{"f(X)", tuple("f", v("X")), "f ( X )"},
	{"f (X _ 1 a)", tuple("f", v("X"), any1, integer(1), atom("a")), "f ( X _ 1 a )"},
	{"'if'('|'(1) '#'(2 3))", tuple("if", tuple("|", integer(1)), tuple("#", integer(2), integer(3))), "'if' ( '|' ( 1 ) '#' ( 2 3 ) )"},
	{"X|Y", tuple("|", v("X"), v("Y")), "( X | Y )"},
	{"'|'(X Y)", tuple("|", v("X"), v("Y")), "( X | Y )"},
	{"'|'(X Y Z)", tuple("|", v("X"), v("Y"), v("Z")), "'|' ( X Y Z )"},
	{"[X]", list(v("X")), "( X | nil )"},
	{"[X 1 [a]]", list(v("X"), integer(1), list(atom("a"))), "( X | ( 1 | ( ( a | nil ) | nil ) ) )"},
	{"{F}", call("F"), "{ F }"},
	{"{F X {G} 1+2}", call("F", v("X"), call("G"), op("+", integer(1), integer(2))), "{ F X { G } ( 1 + 2 ) }"},
	{"fun {$} 1 end", node("fn", integer(1)), "fun { $ } 1 end"},
	{"fun {$ X _ Y} X end", node("fn", v("X"), any1, v("Y"), v("X")), "fun { $ X _ Y } X end"},
	{"proc {$} skip end", node("pr", skip), "proc { $ } skip end"},
	{"proc {$ _ X} {P X} skip end", node("pr", any1, v("X"), seq(apply("P", v("X")), skip)), "proc { $ _ X } { P X } skip end"},
	{"thread {F} end", node("future", call("F")), "thread { F } end"},
	{"local X in skip in X end", node("let", v("X"), skip, v("X")), "local X in skip in X end"},
	{"local X Y in {P X} {Q Y} in X+Y end", node("let", v("X"), v("Y"), seq(apply("P", v("X")), apply("Q", v("Y"))), op("+", v("X"), v("Y"))), "local X Y in { P X } { Q Y } in ( X + Y ) end"},
	{"if B then 1 else 2 end", node("cond", v("B"), integer(1), integer(2)), "if B then 1 else 2 end"},
}

func TestRows(t *testing.T) {
	kinds := map[string]bool{}
	var note func(x api.Syn)
	note = func(x api.Syn) {
		kinds[x.Kind] = true
		for _, k := range x.Kids {
			note(k)
		}
	}
	for _, r := range rows {
		note(r.tree)
		checkBoth(t, r.source, r.tree, r.printed)
		if !isStatement(r.tree) {
			checkBoth(t, "Y = "+r.source, eq(v("Y"), r.tree), "Y = "+r.printed)
			checkBoth(t, "{P "+r.source+"}", apply("P", r.tree), "{ P "+r.printed+" }")
			checkBoth(t, "g("+r.source+")", tuple("g", r.tree), "g ( "+r.printed+" )")
		} else {
			checkBoth(t, "thread "+r.source+" end", node("thread", r.tree), "thread "+r.printed+" end")
		}
	}
	if len(kinds) != 27 {
		t.Errorf("the rows have %d kinds", len(kinds))
	}
}

func TestRowsOfOperators(t *testing.T) {
	for _, o := range operators {
		checkBoth(t, "X"+o+"1", op(o, v("X"), integer(1)), "( X "+o+" 1 )")
		checkRead(t, "X "+o+" 1", op(o, v("X"), integer(1)))
		checkRead(t, "Y = X "+o+" 1", eq(v("Y"), op(o, v("X"), integer(1))))
		checkRead(t, "X "+o+" 1 = Y", eq(op(o, v("X"), integer(1)), v("Y")))
		for _, s := range []string{"X " + o, o + " X", o, "X " + o + " " + o + " Y", "(X " + o + ")", "X " + o + " = Y"} {
			checkExprRefused(t, s, api.ErrForm)
			checkRefused(t, "Z = "+s, api.ErrForm)
			checkRefused(t, s, api.ErrForm)
		}
		checkRefused(t, "X "+o+" Y", api.ErrForm)
		checkRefused(t, "{P} "+o+" {Q}", api.ErrForm)
	}
}

// The chapter's examples.
func TestExamples(t *testing.T) {
	sum := op("+", integer(1), op("*", integer(2), integer(3)))
	checkBoth(t, "X = 1 + 2 * 3", eq(v("X"), sum), "X = ( 1 + ( 2 * 3 ) )")
	two := tuple("|", integer(1), tuple("|", integer(2), atom("nil")))
	checkBoth(t, "local X in X = [1 2] {P X} end", node("local", v("X"), seq(eq(v("X"), two), apply("P", v("X")))), "local X in X = ( 1 | ( 2 | nil ) ) { P X } end")
	body := node("cond", op("==", v("X"), integer(0)), integer(1), call("F", op("-", v("X"), integer(1))))
	checkBoth(t, "fun {F X} if X == 0 then 1 else {F X - 1} end end", named("fun", "F", v("X"), body), "fun { F X } if ( X == 0 ) then 1 else { F ( X - 1 ) } end end")
}

// Each keyword, where a statement is asked for: one of the table begins, or nothing does.
func TestKeywordsOfStatements(t *testing.T) {
	begins := map[string]bool{}
	for _, r := range rows {
		word, _, _ := strings.Cut(r.source, " ")
		begins[word] = begins[word] || isStatement(r.tree)
	}
	for _, w := range keywords {
		if begins[w] != strings.Contains(" skip local if case proc fun thread try raise choose ", " "+w+" ") {
			t.Errorf("%s begins a statement: %v", w, begins[w])
		}
		for _, around := range [][2]string{{"", ""}, {"thread ", " end"}, {"{P} ", ""}, {"{P} ", " X = 1"}} {
			for _, s := range []string{w, w + " skip end", w + " X in skip end", w + " X = 1", w + " = X", w + " {P}", w + " (X)"} {
				if !begins[w] {
					checkRefused(t, around[0]+s+around[1], api.ErrForm)
				}
			}
		}
		if w != "skip" {
			checkRefused(t, w, api.ErrForm)
		}
		checkRefused(t, w+" = X", api.ErrForm)
		checkRefused(t, w+" "+w+" = X", api.ErrForm)
		checkRead(t, "'"+w+"' = X", eq(atom(w), v("X")))
		checkRead(t, "'"+w+"'(1) = X", eq(tuple(w, integer(1)), v("X")))
	}
	for _, s := range []string{"local X in skip in X end", "thread X end", "if B then 1 else 2 end", "fun {$} 1 end", "fun {$ X} X end", "proc {$} skip end", "fun lazy {$} 1 end"} {
		checkRefused(t, s, api.ErrForm)
		checkRefused(t, s+" = X", api.ErrForm)
		checkRefused(t, "skip "+s+" = X", api.ErrForm)
		checkRefused(t, "thread "+s+" = X end", api.ErrForm)
	}
	checkRefused(t, "{P} lazy {F} 1 end", api.ErrForm)
	checkRefused(t, "lazy {F} 1 end", api.ErrForm)
	checkRefused(t, "proc lazy {F} skip end", api.ErrForm)
}

// Each keyword, where an expression is asked for.
func TestKeywordsOfExpressions(t *testing.T) {
	for _, s := range []string{
		"skip", "local X in skip end", "if B then skip else skip end", "if B then 1 end", "if B then skip end", "if B then 1 else skip end", "if B then skip else 1 end",
		"case L of a then skip end", "case L of a then 1 else 2 end", "proc {P} skip end", "proc {P X} skip end", "fun {F} 1 end", "fun {F X} X end",
		"fun lazy {F} 1 end", "fun lazy {$} 1 end", "fun {$} skip end", "proc {$} 1 end", "thread skip end", "try skip catch E then skip end", "try 1 catch E then 2 end",
		"raise a end", "choose skip [] skip end", "choose 1 [] 2 end", "lazy {$} 1 end", "in", "end", "then", "else", "of", "catch", "lazy", "X = 1", "{F} = 1", "X Y", "fun", "proc", "thread", "local", "if",
	} {
		checkExprRefused(t, s, api.ErrForm)
		checkExprRefused(t, "("+s+")", api.ErrForm)
		checkExprRefused(t, "1 + ("+s+")", api.ErrForm)
		checkExprRefused(t, "f(("+s+"))", api.ErrForm)
		checkRefused(t, "X = ("+s+")", api.ErrForm)
		checkRefused(t, "{P ("+s+")}", api.ErrForm)
	}
	for _, w := range keywords {
		if !strings.Contains(" fun proc thread local if ", " "+w+" ") {
			for _, s := range []string{w, w + " X end", w + " {$} 1 end", w + " 1", w + "(X)"} {
				checkExprRefused(t, s, api.ErrForm)
				checkExprRefused(t, "1 + "+s, api.ErrForm)
				checkRefused(t, "X = "+s, api.ErrForm)
			}
		}
		checkExprRefused(t, w, api.ErrForm)
		checkRead(t, "'"+w+"'", atom(w))
	}
	cond := node("cond", v("B"), integer(1), integer(2))
	checkRead(t, "if B then 1 else 2 end + 3", op("+", cond, integer(3)))
	checkRead(t, "3 * if B then 1 else 2 end", op("*", integer(3), cond))
	checkRead(t, "X = thread 1 end | nil", eq(v("X"), tuple("|", node("future", integer(1)), atom("nil"))))
	checkRead(t, "{fun {$} 1 end}", node("call", node("fn", integer(1))))
}

// What may be left out, and what may not.
func TestLeftOut(t *testing.T) {
	checkBoth(t, "if B then if C then skip end end", node("if", v("B"), node("if", v("C"), skip, skip), skip), "if B then if C then skip else skip end else skip end")
	checkRead(t, "if B then skip else skip end", node("if", v("B"), skip, skip))
	checkRead(t, "case X of a then skip else raise noelse end end", node("case", v("X"), arm(atom("a"), skip), noElse))
	checkRead(t, "case X of a then skip [] b then skip end", node("case", v("X"), arm(atom("a"), skip), arm(atom("b"), skip), noElse))
	inner := node("case", v("Y"), arm(atom("b"), skip), noElse)
	checkBoth(t, "case X of a then case Y of b then skip end else skip end", node("case", v("X"), arm(atom("a"), inner), skip), "case X of a then case Y of b then skip else raise noelse end end else skip end")
	for _, s := range []string{
		"if B then skip else end", "if B then end", "if B then else skip end", "if B skip end", "if then skip end", "if B then skip", "if B then skip else skip", "if B then skip else skip else skip end",
		"case X of a then skip else end", "case X of else skip end", "case X of end", "case X of a then end", "case X of then skip end", "case X of a skip end", "case of a then skip end", "case X a then skip end",
		"case X of a then skip [] end", "case X of a then skip [] else skip end", "case X of [] a then skip end", "case X of a then skip b then skip end", "case X of a then skip else skip [] b then skip end", "case X of a then skip",
		"local in skip end", "local X skip end", "local X in end", "local X in skip", "local X", "X", "=", "X =", "= X", "{}", "{", "}", "{P", "P}",
		"proc {} skip end", "proc {P} end", "proc P skip end", "proc {P} skip", "proc skip end", "fun {} 1 end", "fun {F} end", "fun F 1 end", "fun {F} 1", "fun lazy {} 1 end", "fun lazy {F} end", "fun lazy F 1 end", "fun lazy {F} 1",
		"thread end", "thread skip", "try catch E then skip end", "try skip catch then skip end", "try skip catch E skip end", "try skip catch E then end", "try skip catch E then skip", "try skip end", "try skip E then skip end",
		"raise end", "raise a", "choose end", "choose skip end", "choose [] skip end", "choose skip [] end", "choose skip [] skip", "choose skip [] [] skip end", "choose skip skip end", "skip end", "end",
	} {
		checkRefused(t, s, api.ErrForm)
		checkRefused(t, "skip "+s, api.ErrForm)
		checkRefused(t, "thread "+s+" end", api.ErrForm)
	}
	for _, s := range []string{
		"if B then 1 end", "if B then 1 else end", "if B then else 1 end", "if then 1 else 2 end", "if B 1 else 2 end", "if B then 1 else 2",
		"local X in skip in end", "local X in in X end", "local X in X end", "local in skip in X end", "local X skip in X end", "local X in skip in X", "thread end", "thread X",
		"fun {} 1 end", "fun {$} end", "fun $ 1 end", "fun {$ 1 end", "fun {$} 1", "proc {} skip end", "proc {$} end", "proc {$} skip", "proc $ skip end",
		"{}", "{F", "f()", "f(", "f(X", "()", "(", "(X", "X)", "[]", "[ ]", "[", "[X", "X]", "", "X Y", "| X", "X |",
	} {
		checkExprRefused(t, s, api.ErrForm)
		checkRefused(t, "X = "+s, api.ErrForm)
	}
}

// Names and parameters are identifiers, or `_` where parameters stand; nothing else is.
func TestNamesOnly(t *testing.T) {
	for _, w := range []string{"a", "1", "~1", "'X'", "$", "(X)", "X = Y", "f(X)", "{X}", "[X]", "skip", "X | Y"} {
		for _, s := range []string{"local " + w + " in skip end", "local X " + w + " in skip end", "proc {" + w + "} skip end", "proc {P " + w + "} skip end", "proc {P X " + w + " Y} skip end", "fun {" + w + "} 1 end", "fun {F " + w + "} 1 end", "fun lazy {" + w + "} 1 end", "fun lazy {F " + w + "} 1 end", "try skip catch " + w + " then skip end"} {
			checkRefused(t, s, api.ErrForm)
		}
		for _, s := range []string{"fun {$ " + w + "} 1 end", "proc {$ " + w + "} skip end", "fun {$ X " + w + "} 1 end", "local " + w + " in skip in X end", "local X " + w + " in skip in X end"} {
			checkExprRefused(t, s, api.ErrForm)
			checkRefused(t, "X = "+s, api.ErrForm)
		}
	}
	for _, s := range []string{"local _ in skip end", "local X _ in skip end", "proc {_} skip end", "fun {_ X} X end", "fun lazy {_} 1 end", "try skip catch _ then skip end", "try skip catch X Y then skip end"} {
		checkRefused(t, s, api.ErrForm)
	}
	checkExprRefused(t, "local _ in skip in X end", api.ErrForm)
	checkExprRefused(t, "fun {X $} X end", api.ErrForm)
	checkExprRefused(t, "fun {$ $} 1 end", api.ErrForm)
}
