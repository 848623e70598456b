package parse_test

import (
	"testing"

	"leatwork/api"
)

// keyExpressions are expressions that begin with a keyword, and how they are printed.
var keyExpressions = map[string]api.Syn{
	"fun { $ X } X end":             node("fn", v("X"), v("X")),
	"proc { $ } skip end":           node("pr", skip),
	"thread X end":                  node("future", v("X")),
	"local X in skip in X end":      node("let", v("X"), skip, v("X")),
	"if B then 1 else 2 end":        node("cond", v("B"), integer(1), integer(2)),
	"fun { $ } fun { $ } 1 end end": node("fn", node("fn", integer(1))),
}

// The left side of an eq that begins with a keyword is in parentheses, and nothing else is for that.
func TestPrintLeftSides(t *testing.T) {
	for s, x := range keyExpressions {
		checkBoth(t, "("+s+") = Y", eq(x, v("Y")), "( "+s+" ) = Y")
		checkBoth(t, "Y = ("+s+")", eq(v("Y"), x), "Y = "+s)
		checkBoth(t, "("+s+") = ("+s+")", eq(x, x), "( "+s+" ) = "+s)
		checkBoth(t, "{("+s+")}", node("apply", x), "{ "+s+" }")
		checkBoth(t, "{("+s+")} = Y", eq(node("call", x), v("Y")), "{ "+s+" } = Y")
		checkBoth(t, "f("+s+") = Y", eq(tuple("f", x), v("Y")), "f ( "+s+" ) = Y")
		checkBoth(t, "("+s+") + 1 = Y", eq(op("+", x, integer(1)), v("Y")), "( "+s+" + 1 ) = Y")
		checkBoth(t, "("+s+") | 1 = Y", eq(tuple("|", x, integer(1)), v("Y")), "( "+s+" | 1 ) = Y")
		checkBoth(t, "skip ("+s+") = Y {P}", seq(skip, eq(x, v("Y")), apply("P")), "skip ( "+s+" ) = Y { P }")
		checkBoth(t, "thread ("+s+") = Y end", node("thread", eq(x, v("Y"))), "thread ( "+s+" ) = Y end")
		checkRefused(t, s+" = Y", api.ErrForm)
	}
	for s, x := range map[string]api.Syn{"X": v("X"), "_": any1, "1": integer(1), "a": atom("a"), "'if'": atom("if"), "'local'": atom("local"), "'if' ( X )": tuple("if", v("X")), "{ F }": call("F"), "( X | Y )": tuple("|", v("X"), v("Y")), "( X - 1 )": op("-", v("X"), integer(1))} {
		checkBoth(t, s+" = Y", eq(x, v("Y")), s+" = Y")
	}
}

// An atom with a parenthesis behind it is in parentheses.
func TestPrintAtoms(t *testing.T) {
	a, b, c, x, y := atom("a"), atom("b"), atom("c"), v("X"), v("Y")
	sum := op("+", x, integer(1))
	for _, r := range []row{
		{"{F (a) (X+1)}", apply("F", a, sum), "{ F ( a ) ( X + 1 ) }"},
		{"{F (a) (b) (c) X+1}", apply("F", a, b, c, sum), "{ F ( a ) ( b ) ( c ) ( X + 1 ) }"},
		{"{F (a) (X|Y)}", apply("F", a, tuple("|", x, y)), "{ F ( a ) ( X | Y ) }"},
		{"{F a [X]}", apply("F", a, list(x)), "{ F ( a ) ( X | nil ) }"},
		{"{F a X+1 b Y}", apply("F", a, sum, b, y), "{ F ( a ) ( X + 1 ) b Y }"},
		{"{F a X (b) (X+1)}", apply("F", a, x, b, sum), "{ F a X ( b ) ( X + 1 ) }"},
		{"{F a 1 X+1}", apply("F", a, integer(1), sum), "{ F a 1 ( X + 1 ) }"},
		{"{F X (X+1)}", apply("F", x, sum), "{ F X ( X + 1 ) }"},
		{"{F 1 (X+1) _ (X+1)}", apply("F", integer(1), sum, any1, sum), "{ F 1 ( X + 1 ) _ ( X + 1 ) }"},
		{"{F X+1 a}", apply("F", sum, a), "{ F ( X + 1 ) a }"},
		{"{F a b}", apply("F", a, b), "{ F a b }"},
		{"{F a b(X)}", apply("F", a, tuple("b", x)), "{ F a b ( X ) }"},
		{"{F a b(c X+1)}", apply("F", a, tuple("b", c, sum)), "{ F a b ( ( c ) ( X + 1 ) ) }"},
		{"{F (a) '|'(X)}", apply("F", a, tuple("|", x)), "{ F a '|' ( X ) }"},
		{"{(a) (X+1)}", node("apply", a, sum), "{ ( a ) ( X + 1 ) }"},
		{"{(a)}", node("apply", a), "{ a }"},
		{"{F ('if') ('|') (X+1)}", apply("F", atom("if"), atom("|"), sum), "{ F ( 'if' ) ( '|' ) ( X + 1 ) }"},
		{"f((a) (X+1))", tuple("f", a, sum), "f ( ( a ) ( X + 1 ) )"},
		{"f((X+1) a)", tuple("f", sum, a), "f ( ( X + 1 ) a )"},
		{"f(a)", tuple("f", a), "f ( a )"},
		{"[a X+1]", list(a, sum), "( a | ( ( X + 1 ) | nil ) )"},
		{"a|b|c", tuple("|", a, tuple("|", b, c)), "( a | ( b | c ) )"},
		{"X=a (X+1)=b", eq(x, tuple("a", sum)), ""},
		{"X=(a) (X+1)=b", seq(eq(x, a), eq(sum, b)), "X = ( a ) ( X + 1 ) = b"},
		{"X=(a) (thread Y end)=(b) (X|Y)=c", seq(eq(x, a), eq(node("future", y), b), eq(tuple("|", x, y), c)), "X = ( a ) ( thread Y end ) = ( b ) ( X | Y ) = c"},
		{"X=a (b)=c", eq(x, tuple("a", b)), ""},
		{"X=(a) (b)=c", seq(eq(x, a), eq(b, c)), "X = a b = c"},
		{"X=(a) ({F})=c", seq(eq(x, a), eq(call("F"), c)), "X = a { F } = c"},
		{"X=Y (X+1)=b", seq(eq(x, y), eq(sum, b)), "X = Y ( X + 1 ) = b"},
		{"X={F} (X+1)=b", seq(eq(x, call("F")), eq(sum, b)), "X = { F } ( X + 1 ) = b"},
		{"X=a|b (X+1)=b", eq(x, tuple("|", a, tuple("b", sum))), ""},
		{"raise a end (X+1)=b", seq(node("raise", a), eq(sum, b)), "raise a end ( X + 1 ) = b"},
		{"case a of b then (X+1)=c [] (c) then skip end", node("case", a, arm(b, eq(sum, c)), arm(c, skip), noElse), "case a of b then ( X + 1 ) = c [] c then skip else raise noelse end end"},
		{"case a of f(b c) then X=(a) (X+1)=b end", node("case", a, arm(tuple("f", b, c), seq(eq(x, a), eq(sum, b))), noElse), "case a of f ( b c ) then X = ( a ) ( X + 1 ) = b else raise noelse end end"},
		{"fun {$} a end", node("fn", a), "fun { $ } a end"},
		{"{F fun {$} a end (X+1)}", apply("F", node("fn", a), sum), "{ F fun { $ } a end ( X + 1 ) }"},
	} {
		if r.printed == "" { // an eq and something left over
			checkRefused(t, r.source, api.ErrForm)
			continue
		}
		checkBoth(t, r.source, r.tree, r.printed)
	}
}

func TestPrintIntegers(t *testing.T) {
	checkPrint(t, op("-", integer(-1), integer(-2)), "( ~1 - ~2 )")
	checkPrint(t, apply("F", integer(-1), integer(1), integer(0)), "{ F ~1 1 0 }")
}

// The tests' own printing gives what Print gives.
func TestPrintByForms(t *testing.T) {
	for _, r := range rows {
		if got := byForms(r.tree, false); got != r.printed {
			t.Errorf("byForms(%v) = %q, want %q", r.tree, got, r.printed)
		}
	}
}
