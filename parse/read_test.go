package parse_test

import (
	"slices"
	"strings"
	"testing"

	"leatwork/api"
)

// strength is how strongly an operator binds.
func strength(o string) int {
	switch o {
	case "|":
		return 0
	case "+", "-":
		return 2
	case "*":
		return 3
	}
	return 1
}

// Each operator beside each other one.
func TestOperatorLevels(t *testing.T) {
	x, y, z := v("X"), v("Y"), v("Z")
	for _, o := range operators {
		for _, p := range operators {
			source := "X " + o + " Y " + p + " Z"
			left, right := op(p, op(o, x, y), z), op(o, x, op(p, y, z))
			switch {
			case strength(o) == 1 && strength(p) == 1:
				checkExprRefused(t, source, api.ErrForm)
				checkRefused(t, "A = "+source, api.ErrForm)
				checkRefused(t, source+" = A", api.ErrForm)
				checkRefused(t, "{P "+source+"}", api.ErrForm)
				checkRefused(t, "if "+source+" then skip end", api.ErrForm)
			case strength(o) > strength(p) || strength(o) == strength(p) && o != "|":
				checkBoth(t, source, left, "( ( X "+o+" Y ) "+p+" Z )")
				checkRead(t, "A = "+source, eq(v("A"), left))
			default:
				checkBoth(t, source, right, "( X "+o+" ( Y "+p+" Z ) )")
				checkRead(t, source+" = A", eq(right, v("A")))
			}
			checkBoth(t, "(X "+o+" Y) "+p+" Z", left, "( ( X "+o+" Y ) "+p+" Z )")
			checkBoth(t, "X "+o+" (Y "+p+" Z)", right, "( X "+o+" ( Y "+p+" Z ) )")
		}
	}
}

// Three operators, of which the outer ones are comparisons.
func TestComparisons(t *testing.T) {
	comparison := func(o, x, y string) api.Syn { return op(o, v(x), v(y)) }
	for _, o := range operators[1:7] {
		for _, p := range operators[1:7] {
			checkRead(t, "A "+o+" B | C "+p+" D", tuple("|", comparison(o, "A", "B"), comparison(p, "C", "D")))
			checkRead(t, "(A "+o+" B) "+p+" (C "+o+" D)", op(p, comparison(o, "A", "B"), comparison(o, "C", "D")))
			for _, q := range []string{"+", "-", "*"} {
				checkExprRefused(t, "A "+o+" B "+q+" C "+p+" D", api.ErrForm)
			}
			checkExprRefused(t, "A "+o+" B "+p+" C | D", api.ErrForm)
			checkExprRefused(t, "A | B "+o+" C "+p+" D", api.ErrForm)
		}
	}
	checkRead(t, "A + B * C < D - 1 | E", tuple("|", op("<", op("+", v("A"), op("*", v("B"), v("C"))), op("-", v("D"), integer(1))), v("E")))
	checkRead(t, "A * B - C - D * E + F", op("+", op("-", op("-", op("*", v("A"), v("B")), v("C")), op("*", v("D"), v("E"))), v("F")))
	checkRead(t, "A | B | C | D", tuple("|", v("A"), tuple("|", v("B"), tuple("|", v("C"), v("D")))))
	checkRead(t, "1-2", op("-", integer(1), integer(2)))
	checkRead(t, "1 - ~2", op("-", integer(1), integer(-2)))
	checkExprRefused(t, "1 ~2", api.ErrForm)
	checkExprRefused(t, "-2", api.ErrForm)
	checkExprRefused(t, "1 - -2", api.ErrForm)
	checkRefused(t, "X = Y = Z", api.ErrForm)
	checkRefused(t, "X = (Y = Z)", api.ErrForm)
	checkExprRefused(t, "X = Y", api.ErrForm)
	checkRefused(t, "(X = Y)", api.ErrForm)
}

// P4.5
func TestParentheses(t *testing.T) {
	checkRead(t, "(X)", v("X"))
	checkRead(t, "((X))", v("X"))
	checkRead(t, "(X) = (1)", eq(v("X"), integer(1)))
	checkRead(t, "({P X})", apply("P", v("X")))
	checkRead(t, "(({P})) ({Q})", seq(apply("P"), apply("Q")))
	checkRead(t, "({F}) = X", eq(call("F"), v("X")))
	checkRead(t, "{(P) (X) (a) (1)}", apply("P", v("X"), atom("a"), integer(1)))
	checkRead(t, "(a)", atom("a"))
	checkRead(t, "f((a) (b))", tuple("f", atom("a"), atom("b")))
	checkRead(t, "case (L) of (H|T) then skip [] (a) then skip [] f((X) (1)) then skip end", node("case", v("L"), arm(tuple("|", v("H"), v("T")), skip), arm(atom("a"), skip), arm(tuple("f", v("X"), integer(1)), skip), noElse))
	for _, s := range []string{"(f)(X)", "(X", "X)", "((X)", "(X))", "(X Y)", "(skip)", "(X = 1)", "()", "local (X) in skip in X end", "fun {$ (X)} X end", "fun {($)} 1 end"} {
		checkExprRefused(t, s, api.ErrForm)
	}
	for _, s := range []string{"(skip)", "({P} {Q})", "(X)", "(thread skip end)", "({P}) + 1", "({P} = X)"} {
		checkRefused(t, s, api.ErrForm)
	}
	checkRead(t, strings.Repeat("(", 590)+"a"+strings.Repeat(")", 590), atom("a"))
	checkExprRefused(t, strings.Repeat("(", 590)+"a"+strings.Repeat(")", 589), api.ErrForm)
	checkExprRefused(t, strings.Repeat("(", 589)+"a"+strings.Repeat(")", 590), api.ErrForm)
}

// P4.5: the sources of all rows, each expression of them in parentheses.
func TestParenthesesOfRows(t *testing.T) {
	for _, r := range rows {
		checkRead(t, byForms(r.tree, true), r.tree)
	}
}

func TestLists(t *testing.T) {
	checkBoth(t, "[a]", list(atom("a")), "( a | nil )")
	checkBoth(t, "[1 X|Y (Z)]", list(integer(1), tuple("|", v("X"), v("Y")), v("Z")), "( 1 | ( ( X | Y ) | ( Z | nil ) ) )")
	checkRead(t, "[[1][2]]", list(list(integer(1)), list(integer(2))))
	checkRead(t, "[1]|[2]", tuple("|", list(integer(1)), list(integer(2))))
	checkRead(t, "[1 - 2 ~3]", list(op("-", integer(1), integer(2)), integer(-3)))
	checkRead(t, "[a (X)]", list(tuple("a", v("X"))))
	checkRead(t, "[X (a)]", list(v("X"), atom("a")))
	checkRead(t, "1|2|nil", list(integer(1), integer(2)))
	checkRead(t, "[nil]", list(atom("nil")))
	checkRead(t, "[1] = X [2] = Y", seq(eq(list(integer(1)), v("X")), eq(list(integer(2)), v("Y"))))
	for _, s := range []string{"[]", "[ ]", "[1", "[1|]", "[X = 1]", "[1 2)", "[skip]", "[1, 2]", "[[]]", "[1 [] 2]"} {
		checkExprRefused(t, s, api.ErrForm)
		checkRefused(t, "X = "+s, api.ErrForm)
	}
}

func TestTuples(t *testing.T) {
	checkBoth(t, "f(f(f))", tuple("f", tuple("f", atom("f"))), "f ( f ( f ) )")
	checkRead(t, "f%(\n(X)", tuple("f", v("X")))
	checkRead(t, "f(1 - 2)", tuple("f", op("-", integer(1), integer(2))))
	checkRead(t, "f(g (X) Y)", tuple("f", tuple("g", v("X")), v("Y")))
	checkRead(t, "{F a (X)}", call("F", tuple("a", v("X"))))
	checkRead(t, "{F X (a)}", call("F", v("X"), atom("a")))
	checkRead(t, "a(1)|b(2)", tuple("|", tuple("a", integer(1)), tuple("b", integer(2))))
	checkRead(t, "'|'((X|Y) Z)", tuple("|", tuple("|", v("X"), v("Y")), v("Z")))
	for _, label := range []string{"f", "'|'", "'#'", "'if'", "nil", "abcdefghijklmnop"} {
		name := strings.Trim(label, "'")
		for n := 1; n <= api.MaxArity+2; n++ {
			args := slices.Repeat([]api.Syn{v("X")}, n)
			source := label + "(" + strings.Repeat("X ", n) + ")"
			if n > api.MaxArity {
				checkExprRefused(t, source, api.ErrForm)
				checkRefused(t, "Y = "+source, api.ErrForm)
				checkWithin(t, tuple(name, args...), false)
				continue
			}
			checkRead(t, source, tuple(name, args...))
			checkWithin(t, tuple(name, args...), true)
		}
		checkExprRefused(t, label+"()", api.ErrForm)
		checkExprRefused(t, label+"(X", api.ErrForm)
		checkWithin(t, tuple(name), false)
	}
	for _, s := range []string{"X(Y)", "1(X)", "_(X)", "f(X)(Y)", "f(X = Y)", "f(skip)", "f[X]", "f{X}", "'|' X Y"} {
		checkExprRefused(t, s, api.ErrForm)
	}
}

// Calls have as many arguments as there are.
func TestManyArguments(t *testing.T) {
	args := slices.Repeat([]api.Syn{integer(1)}, 300)
	checkRead(t, "{F"+strings.Repeat(" 1", 300)+"}", apply("F", args...))
	checkBoth(t, "{F"+strings.Repeat(" 1", 9)+"}=X", eq(call("F", args[:9]...), v("X")), "{ F"+strings.Repeat(" 1", 9)+" } = X")
}

// A call where a statement is asked for, and where an expression is.
func TestCalls(t *testing.T) {
	checkBoth(t, "{F}", apply("F"), "{ F }")
	checkBoth(t, "{F}=X", eq(call("F"), v("X")), "{ F } = X")
	checkBoth(t, "{F}={G}", eq(call("F"), call("G")), "{ F } = { G }")
	checkBoth(t, "X={G}", eq(v("X"), call("G")), "X = { G }")
	checkBoth(t, "{F}{G}", seq(apply("F"), apply("G")), "{ F } { G }")
	checkBoth(t, "{F}{G}=X", seq(apply("F"), eq(call("G"), v("X"))), "{ F } { G } = X")
	checkBoth(t, "{F}={G}{H}", seq(eq(call("F"), call("G")), apply("H")), "{ F } = { G } { H }")
	checkBoth(t, "{F}+1=X", eq(op("+", call("F"), integer(1)), v("X")), "( { F } + 1 ) = X")
	checkBoth(t, "{{F} {G}}", node("apply", call("F"), call("G")), "{ { F } { G } }")
	checkBoth(t, "{a 1}", node("apply", atom("a"), integer(1)), "{ a 1 }")
	checkBoth(t, "{_}", node("apply", any1), "{ _ }")
	checkBoth(t, "{1 2}", node("apply", integer(1), integer(2)), "{ 1 2 }")
	checkBoth(t, "{proc {$} skip end}", node("apply", node("pr", skip)), "{ proc { $ } skip end }")
	checkBoth(t, "fun {F} {G} end", named("fun", "F", call("G")), "fun { F } { G } end")
	checkBoth(t, "proc {P} {G} end", named("proc", "P", apply("G")), "proc { P } { G } end")
	for _, s := range []string{"{F} =", "{F} | X", "{F} + 1", "{F} X", "{F} 1", "{F} a", "{F} _", "f({F})", "[{F}]", "{skip}", "{F skip}", "{F X = 1}", "{F} {G} =", "fun {F} {G} {H} end"} {
		checkRefused(t, s, api.ErrForm)
	}
}

// Sequences end where no statement can begin, and are flat.
func TestSequences(t *testing.T) {
	checkRead(t, "skip skip skip", seq(skip, skip, skip))
	for _, s := range []string{"X=1", "_=1", "a=1", "'end'=1", "5=1", "~5=1", "f(X)=1", "[X]=1", "(X)=1", "{P}=1", "{P}", "skip", "local X in skip end", "if B then skip end", "case X of a then skip end", "proc {P} skip end", "fun {F} 1 end", "fun lazy {F} 1 end", "thread skip end", "try skip catch E then skip end", "raise a end", "choose skip [] skip end"} {
		x := parsed(t, s)
		checkRead(t, "skip "+s, seq(skip, x))
		checkRead(t, s+" skip", seq(x, skip))
		checkRead(t, "X = Y "+s, seq(eq(v("X"), v("Y")), x))
		checkRead(t, "thread skip "+s+" end", node("thread", seq(skip, x)))
		checkRead(t, "X = local Y in "+s+" "+s+" in Y end", eq(v("X"), node("let", v("Y"), seq(x, x), v("Y"))))
		checkRead(t, "choose "+s+" "+s+" [] "+s+" end", node("choose", seq(x, x), x))
		checkRead(t, "try "+s+" "+s+" catch E then skip end", node("try", seq(x, x), v("E"), skip))
		checkRead(t, "if B then "+s+" "+s+" else "+s+" end", node("if", v("B"), seq(x, x), x))
	}
	for _, s := range []string{"X", "1", "a", "f(X)", "[X]", "(X)", "_", ")", "}", "]", "[]", "|", "$", "=", "==", "+", "in", "end", "then", "else", "of", "catch", "lazy"} {
		checkRefused(t, "skip "+s, api.ErrForm)
		checkRefused(t, "{P} "+s, api.ErrForm)
		checkRefused(t, "X = Y "+s+" skip", api.ErrForm)
	}
}

// What must be different, and what need not be.
func TestDifferentNames(t *testing.T) {
	for _, s := range []string{
		"local X X in skip end", "local X Y X in skip end", "proc {P X X} skip end", "proc {P X _ X} skip end", "fun {F X X} 1 end", "fun lazy {F X Y X} 1 end", "A = local X X in skip in 1 end",
		"A = fun {$ X X} 1 end", "A = fun {$ X _ X} 1 end", "A = proc {$ X X} skip end", "A = proc {$ Y X _ X} skip end", "case L of f(X X) then skip end", "case L of f(X _ 1 X) then skip end", "case L of X|X then skip end", "case L of a then skip [] f(X X) then skip end",
		"thread local X X in skip end end", "A = f(fun {$ X X} 1 end)",
	} {
		checkRefused(t, s, api.ErrForm)
	}
	x := v("X")
	checkRead(t, "local X in local X in skip end end", node("local", x, node("local", x, skip)))
	checkRead(t, "proc {P _ _ _} skip end", named("proc", "P", any1, any1, any1, skip))
	checkRead(t, "proc {P P} skip end", named("proc", "P", v("P"), skip))
	checkRead(t, "fun {F F} F end", named("fun", "F", v("F"), v("F")))
	checkRead(t, "fun lazy {F X F} X end", named("lazy", "F", x, v("F"), x))
	checkRead(t, "A = fun {$ X} X end", eq(v("A"), node("fn", x, x)))
	checkRead(t, "A = local X in skip in X end", eq(v("A"), node("let", x, skip, x)))
	checkRead(t, "A = proc {$ X} X = X end", eq(v("A"), node("pr", x, eq(x, x))))
	checkRead(t, "try X = 1 catch X then X = 2 end", node("try", eq(x, integer(1)), x, eq(x, integer(2))))
	checkRead(t, "case X of X then skip [] X then skip end", node("case", x, arm(x, skip), arm(x, skip), noElse))
	checkRead(t, "case L of f(_ _ 1 1 a a) then skip end", node("case", v("L"), arm(tuple("f", any1, any1, integer(1), integer(1), atom("a"), atom("a")), skip), noElse))
	checkRead(t, "A = f(X X)", eq(v("A"), tuple("f", x, x)))
	checkRead(t, "{X X X}", apply("X", x, x))
}

// What patterns may be, and what they may not hold.
func TestPatterns(t *testing.T) {
	for s, p := range map[string]api.Syn{
		"X": v("X"), "_": any1, "1": integer(1), "~1": integer(-1), "a": atom("a"), "'if'": atom("if"), "nil": atom("nil"), "'|'": atom("|"), "(X)": v("X"),
		"f(X)": tuple("f", v("X")), "f(X Y _ 1 a _ b Z)": tuple("f", v("X"), v("Y"), any1, integer(1), atom("a"), any1, atom("b"), v("Z")), "H|T": tuple("|", v("H"), v("T")), "_|_": tuple("|", any1, any1), "(1|a)": tuple("|", integer(1), atom("a")),
		"'|'(X Y)": tuple("|", v("X"), v("Y")), "[X]": list(v("X")), "X|nil": list(v("X")), "'#'(X Y)": tuple("#", v("X"), v("Y")), "'|'(X)": tuple("|", v("X")), "'|'(X Y Z)": tuple("|", v("X"), v("Y"), v("Z")),
	} {
		checkRead(t, "case L of "+s+" then skip end", node("case", v("L"), arm(p, skip), noElse))
		checkRead(t, "case L of "+s+" then skip [] "+s+" then skip else skip end", node("case", v("L"), arm(p, skip), arm(p, skip), skip))
		checkValid(t, node("case", v("L"), arm(p, skip), skip), true)
	}
	for _, s := range []string{
		"f(g(X))", "f(X g(a))", "H|T|U", "(A|B)|C", "[X Y]", "[[X]]", "f(A|B)", "f([X])", "f(X 1+2)", "1+2", "X-1", "X==Y", "{F}", "f({F})", "f(thread X end)", "fun {$} 1 end", "f(fun {$ X} X end)",
		"proc {$} skip end", "thread X end", "local X in skip in X end", "if B then 1 else 2 end", "f(A B C D E F G H I)", "f(1 2 3 4 5 6 7 8 9)", "f()", "[]", "skip", "X Y", "X = Y", "",
	} {
		checkRefused(t, "case L of "+s+" then skip end", api.ErrForm)
		checkRefused(t, "case L of a then skip [] "+s+" then skip end", api.ErrForm)
		checkRefused(t, "case L of "+s+" then skip [] a then skip end", api.ErrForm)
	}
}

// A source without tokens is a skip, and no expression.
func TestNoTokens(t *testing.T) {
	for _, s := range []string{"", " ", "\n\t ", "%", "% X = 1", "%\n%\n", " % a\n\t% b"} {
		checkRead(t, s, skip)
		checkExprRefused(t, s, api.ErrForm)
	}
	checkRefused(t, "thread end", api.ErrForm)
	checkRefused(t, "thread % skip\nend", api.ErrForm)
}

func TestTokensLeftOver(t *testing.T) {
	for _, w := range slices.Concat(symbols, keywords) {
		if w != "skip" && w != "_" {
			checkRefused(t, "skip "+w, api.ErrForm)
			checkRefused(t, "X = 1 "+w, api.ErrForm)
		}
		checkExprRefused(t, "X "+w, api.ErrForm)
		checkExprRefused(t, "f(X) "+w, api.ErrForm)
		checkExprRefused(t, "X + 1 "+w, api.ErrForm)
	}
	checkExprRefused(t, "X skip", api.ErrForm)
	checkExprRefused(t, "X Y", api.ErrForm)
	checkExprRefused(t, "X a(1)", api.ErrForm)
}

// What is no token.
func TestMalformedTokens(t *testing.T) {
	for _, s := range []string{"#", "\\", "01", "~0", "'", "''", "'A'", "'a", "abcdefghijklmnopq", "Abcdefghijklmnopq", "1099511627777", "~1099511627777", "\x00", "\xff", "é", ",", "."} {
		checkRefused(t, s, api.ErrForm)
		checkExprRefused(t, s, api.ErrForm)
		checkRefused(t, "X = "+s, api.ErrForm)
		checkRefused(t, "X = 1 "+s, api.ErrForm)
		checkRefused(t, s+" X = 1", api.ErrForm)
		checkExprRefused(t, "X + "+s, api.ErrForm)
		checkExprRefused(t, "X "+s, api.ErrForm)
		if !strings.Contains(s, "'") {
			checkRead(t, "X = 1 % "+s, eq(v("X"), integer(1)))
		}
	}
}
