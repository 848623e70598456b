package parse_test

import (
	"slices"
	"strings"
	"testing"

	"leatwork/api"
	"leatwork/parse"
)

// nests are all ways to nest: what is made of a statement or an expression, by the kind of the result.
var nests = map[string]func(statement, expression api.Syn) []api.Syn{
	"seq":   func(s, x api.Syn) []api.Syn { return []api.Syn{seq(s, skip), seq(skip, s), seq(skip, s, skip)} },
	"local": func(s, x api.Syn) []api.Syn { return []api.Syn{node("local", v("X"), s)} },
	"eq":    func(s, x api.Syn) []api.Syn { return []api.Syn{eq(x, any1), eq(any1, x)} },
	"if": func(s, x api.Syn) []api.Syn {
		return []api.Syn{node("if", x, skip, skip), node("if", any1, s, skip), node("if", any1, skip, s)}
	},
	"case": func(s, x api.Syn) []api.Syn {
		return []api.Syn{node("case", x, arm(any1, skip), skip), node("case", any1, arm(any1, skip), s)}
	},
	"apply": func(s, x api.Syn) []api.Syn { return []api.Syn{node("apply", x), node("apply", any1, x)} },
	"proc": func(s, x api.Syn) []api.Syn {
		return []api.Syn{named("proc", "P", s), named("proc", "P", v("X"), any1, s)}
	},
	"fun": func(s, x api.Syn) []api.Syn {
		return []api.Syn{named("fun", "P", x), named("fun", "P", v("X"), any1, x)}
	},
	"lazy":   func(s, x api.Syn) []api.Syn { return []api.Syn{named("lazy", "P", x), named("lazy", "P", v("X"), x)} },
	"thread": func(s, x api.Syn) []api.Syn { return []api.Syn{node("thread", s)} },
	"try": func(s, x api.Syn) []api.Syn {
		return []api.Syn{node("try", s, v("X"), skip), node("try", skip, v("X"), s)}
	},
	"raise":  func(s, x api.Syn) []api.Syn { return []api.Syn{node("raise", x)} },
	"choose": func(s, x api.Syn) []api.Syn { return []api.Syn{node("choose", s, skip), node("choose", skip, s)} },
	"tuple": func(s, x api.Syn) []api.Syn {
		return []api.Syn{tuple("f", x), tuple("f", any1, x), tuple("|", x, any1), tuple("|", any1, x)}
	},
	"op": func(s, x api.Syn) []api.Syn {
		return []api.Syn{op("+", x, any1), op("-", any1, x), op("==", any1, x), op("*", x, any1)}
	},
	"call":   func(s, x api.Syn) []api.Syn { return []api.Syn{node("call", x), node("call", any1, x)} },
	"fn":     func(s, x api.Syn) []api.Syn { return []api.Syn{node("fn", x), node("fn", v("X"), any1, x)} },
	"pr":     func(s, x api.Syn) []api.Syn { return []api.Syn{node("pr", s), node("pr", v("X"), any1, s)} },
	"future": func(s, x api.Syn) []api.Syn { return []api.Syn{node("future", x)} },
	"let": func(s, x api.Syn) []api.Syn {
		return []api.Syn{node("let", v("X"), s, any1), node("let", v("X"), skip, x)}
	},
	"cond": func(s, x api.Syn) []api.Syn {
		return []api.Syn{node("cond", x, any1, any1), node("cond", any1, x, any1), node("cond", any1, any1, x)}
	},
}

// checkDepth checks a syntax tree of MaxNest levels, or of one more.
func checkDepth(t *testing.T, x api.Syn, want bool) {
	t.Helper()
	checkValid(t, x, want)
	for _, s := range []string{byForms(x, false), byForms(x, true)} {
		got, e := readers[isStatement(x)](s)
		if want && (e != api.OK || !equal(got, x)) || !want && (e != api.ErrLong || !equal(got, api.Syn{})) {
			t.Errorf("%q is read as %v, %d", s, got, e)
		}
	}
}

// deep is an expression of some levels.
func deep(levels int) api.Syn {
	x := v("X")
	for range levels - 1 {
		x = tuple("f", x)
	}
	return x
}

// deepStatement is a statement of some levels.
func deepStatement(levels int) api.Syn {
	x := skip
	for range levels - 1 {
		x = node("thread", x)
	}
	return x
}

// Each kind that nests, at the top of syntax trees of MaxNest levels and of one more.
func TestNestOnTop(t *testing.T) {
	for _, nest := range nests {
		for _, x := range nest(deepStatement(api.MaxNest-1), deep(api.MaxNest-1)) {
			checkDepth(t, x, true)
		}
		for _, x := range nest(deepStatement(api.MaxNest), deep(api.MaxNest)) {
			checkDepth(t, x, false)
		}
	}
	checkDepth(t, deep(api.MaxNest), true)
	checkDepth(t, deep(api.MaxNest+1), false)
	checkDepth(t, deepStatement(api.MaxNest), true)
	checkDepth(t, deepStatement(api.MaxNest+1), false)
	inArm := func(s api.Syn) api.Syn { return node("case", any1, arm(any1, s), skip) }
	checkDepth(t, inArm(deepStatement(api.MaxNest-2)), true)
	checkDepth(t, inArm(deepStatement(api.MaxNest-1)), false)
}

// Each kind that nests, within itself if that can be, to MaxNest levels and to one more.
func TestNestWithin(t *testing.T) {
	for _, nest := range nests {
		for i := range nest(skip, any1) {
			for _, levels := range []int{api.MaxNest, api.MaxNest + 1} {
				s, x := skip, any1
				for n := 2; n <= levels; n++ {
					if made := nest(s, x)[i]; !isStatement(made) {
						s, x = skip, made
					} else if made.Kind == "seq" { // no seq is within another one
						s, x = node("thread", s), any1
					} else {
						s, x = made, any1
					}
				}
				whole := s
				if equal(whole, skip) {
					whole = x
				}
				if depth(whole) == levels {
					checkDepth(t, whole, levels == api.MaxNest)
				}
			}
		}
	}
}

// A pattern has levels, too.
func TestNestPatterns(t *testing.T) {
	for levels, want := range map[int]bool{api.MaxNest: true, api.MaxNest + 1: false} {
		x := node("case", any1, arm(tuple("f", v("X")), skip), skip) // 4 levels
		for range levels - 4 {
			x = node("thread", x)
		}
		checkDepth(t, x, want)
		x = node("case", any1, arm(v("X"), skip), skip)
		for range levels - 3 {
			x = node("thread", x)
		}
		checkDepth(t, x, want)
		x = node("local", v("X"), skip)
		for range levels - 2 {
			x = node("thread", x)
		}
		checkDepth(t, x, want)
	}
}

// What is deep without its source having many parentheses, and the other way round.
func TestNestOfShortSources(t *testing.T) {
	for _, o := range []string{"|", "+", "-", "*"} {
		source := "X" + strings.Repeat(o+"X", api.MaxNest-1)
		if x, e := parse.Expr(source); e != api.OK || depth(x) != api.MaxNest {
			t.Errorf("Expr(%q) = %v, %d", source, x, e)
		}
		checkExprRefused(t, source+o+"X", api.ErrLong)
		checkRefused(t, "X = "+source, api.ErrLong)
		checkRefused(t, "X = "+source+" {", api.ErrForm)
	}
	list := strings.Repeat(" X", api.MaxNest-1)
	if x, e := parse.Expr("[" + list + "]"); e != api.OK || depth(x) != api.MaxNest {
		t.Errorf("Expr of a list = %v, %d", x, e)
	}
	checkExprRefused(t, "[X"+list+"]", api.ErrLong)
	checkRead(t, strings.Repeat("(", 500)+"X"+strings.Repeat(")", 500), v("X"))
	checkRead(t, strings.Repeat("skip ", 500), seq(slices.Repeat([]api.Syn{skip}, 500)...))
}

// The errors of lex come first, then what is malformed, however deep, and then what is too deep.
func TestErrorOrder(t *testing.T) {
	open, end := strings.Repeat("f(", api.MaxNest), strings.Repeat(")", api.MaxNest)
	checkExprRefused(t, open+"X"+end, api.ErrLong)
	for _, s := range []string{open + "X" + end + ")", open + "X" + end[1:], open + end, open + "X" + end + " X", open + "X =" + end, open + "X < Y < Z" + end, open + "#" + end, open + "g(1 2 3 4 5 6 7 8 9)" + end, open + "fun {$ X X} X end" + end, "fun {$ X X} " + open + "X" + end + " end", "local X X in skip in " + open + "X" + end + " end", "{F " + open + "X" + end + " 01}"} {
		checkExprRefused(t, s, api.ErrForm)
		checkRefused(t, "X = "+s, api.ErrForm)
	}
	for _, s := range []string{"case " + open + "X" + end + " of f(X X) then skip end", "case X of f(g(X)) then X = " + open + "X" + end + " end", "case X of " + open + "X" + end + " then skip end", "local X X in Y = " + open + "X" + end + " end"} {
		checkRefused(t, s, api.ErrForm)
	}
	blanks := strings.Repeat(" ", api.MaxText)
	many := strings.Repeat("{", api.MaxTokens+1)
	for _, s := range []string{"X = 1" + blanks, blanks + "#", "01" + blanks, blanks + "X", many, many + "#", "X = " + open + "X" + end + blanks, "skip end " + many} {
		checkRefused(t, s, api.ErrLong)
		checkExprRefused(t, s, api.ErrLong)
	}
	checkRefused(t, "# "+many, api.ErrForm)
	checkRefused(t, many[1:], api.ErrForm)
	checkExprRefused(t, many[1:], api.ErrForm)
}

func TestSourceLimits(t *testing.T) {
	blanks := strings.Repeat(" ", api.MaxText-5)
	checkRead(t, "X = 1"+blanks, eq(v("X"), integer(1)))
	checkRead(t, blanks+"X = 1", eq(v("X"), integer(1)))
	checkRefused(t, "X = 1 "+blanks, api.ErrLong)
	checkRead(t, blanks+"X | 1", tuple("|", v("X"), integer(1)))
	checkExprRefused(t, blanks+"X | 1 ", api.ErrLong)
	checkRead(t, strings.Repeat("%", api.MaxText), skip)
	checkRefused(t, strings.Repeat("%", api.MaxText+1), api.ErrLong)
	checkExprRefused(t, strings.Repeat("%", api.MaxText), api.ErrForm)
	checkRead(t, strings.Repeat("{P}", api.MaxTokens/3), seq(slices.Repeat([]api.Syn{apply("P")}, api.MaxTokens/3)...))
	checkRefused(t, strings.Repeat("{P}", api.MaxTokens/3)+"{", api.ErrLong)
	checkRead(t, "{P"+strings.Repeat(" 1", api.MaxTokens-3)+"}", apply("P", slices.Repeat([]api.Syn{integer(1)}, api.MaxTokens-3)...))
	checkRead(t, "{"+strings.Repeat("1 ", api.MaxTokens-3)+"1}", node("apply", slices.Repeat([]api.Syn{integer(1)}, api.MaxTokens-2)...))
	checkExprRefused(t, "{"+strings.Repeat("1 ", api.MaxTokens-1)+"}", api.ErrLong)
}

// checkLength checks the error of Print of a valid syntax tree whose source has some tokens and bytes.
func checkLength(t *testing.T, x api.Syn, tokens, bytes int) {
	t.Helper()
	want := api.OK
	if tokens > api.MaxTokens || bytes > api.MaxText {
		want = api.ErrLong
	}
	s, e := parse.Print(x)
	if e != want || want == api.ErrLong && s != "" || want == api.OK && (len(s) != bytes || len(scan(t, s)) != tokens) {
		t.Errorf("Print of %d tokens and %d bytes: %d bytes, %d", tokens, bytes, len(s), e)
	}
	if want == api.OK {
		checkRead(t, s, x)
	}
	if !parse.Valid(x) {
		t.Errorf("Valid of %d tokens and %d bytes is false", tokens, bytes)
	}
}

func TestPrintTokens(t *testing.T) {
	for _, more := range []int{-1, 0, 1, 2, 100, 100000} {
		n := api.MaxTokens - 3 + more
		checkLength(t, apply("P", slices.Repeat([]api.Syn{integer(1)}, n)...), 3+n, 5+2*n)
		checkLength(t, named("proc", "P", append(slices.Repeat([]api.Syn{any1}, n-3), skip)...), 3+n, 2*n+13)
		checkLength(t, node("call", slices.Repeat([]api.Syn{any1}, n+1)...), 3+n, 3+2*(n+1))
	}
	// Parentheses around atoms count.
	for _, more := range []int{-2, -1, 0, 1} {
		n := (api.MaxTokens-3-5)/3 + more
		atoms := slices.Repeat([]api.Syn{atom("a")}, n)
		checkLength(t, apply("P", append(atoms, op("+", any1, any1))...), 3+3*n+5, 5+6*n+10)
	}
	for _, more := range []int{-1, 0, 1} {
		n := (api.MaxTokens-2-5)/6 + more
		checkLength(t, seq(slices.Repeat([]api.Syn{eq(op("+", v("X"), any1), atom("a"))}, n)...), 7*n+2*(n-1), 18*n-1)
	}
}

func TestPrintBytes(t *testing.T) {
	name := v("Abcdefghijklmnop")
	for n := range 20 {
		x := append(slices.Repeat([]api.Syn{name}, 230), v("Abcdefghijklmnop"[:min(n+1, 16)]))
		if n > 15 {
			x = append(x, v("Abcdefghijklmnop"[:n-15]))
		}
		total := 1
		for _, k := range x {
			total += 1 + len(k.Text)
		}
		for _, y := range []struct {
			kid    api.Syn
			length int
		}{{atom("abcdefghijklmnop"), 16}, {integer(api.MaxInt), 13}, {integer(-api.MaxInt), 14}, {atom("if"), 4}, {atom("|"), 3}, {any1, 1}} {
			kids := slices.Concat(x, []api.Syn{y.kid, y.kid, y.kid, y.kid})
			checkLength(t, node("apply", kids...), len(kids)+2, total+4*(y.length+1)+2)
		}
	}
	exact := func(last string) api.Syn {
		kids := append(slices.Repeat([]api.Syn{name}, 234), v(last)) // 3978 bytes of the first ones, and 4 of the braces
		return node("apply", kids...)
	}
	checkLength(t, exact("Abcdefghijklmnop"), 237, api.MaxText-2)
	full := node("apply", append(slices.Repeat([]api.Syn{name}, 235), any1)...)
	checkLength(t, full, 238, api.MaxText)
	checkLength(t, node("apply", append(slices.Repeat([]api.Syn{name}, 235), integer(12))...), 238, api.MaxText+1)
	checkLength(t, node("apply", append(slices.Repeat([]api.Syn{name}, 235), integer(-1))...), 238, api.MaxText+1)
	checkLength(t, seq(slices.Repeat([]api.Syn{skip}, 800)...), 800, 3999)
	checkLength(t, seq(slices.Repeat([]api.Syn{skip}, 801)...), 801, 4004)
}

// What is malformed is that, however long its source would be.
func TestPrintErrorOrder(t *testing.T) {
	many := slices.Repeat([]api.Syn{integer(1)}, 100000)
	if s, e := parse.Print(apply("P", many...)); e != api.ErrLong || s != "" {
		t.Errorf("Print = %q, %d", s, e)
	}
	checkValid(t, apply("P", append(many, skip)...), false)
	checkValid(t, apply("P", append(many, deep(api.MaxNest))...), false)
	checkValid(t, tuple("f", many...), false)
	checkValid(t, node("local", append(slices.Repeat([]api.Syn{v("X")}, 100000), skip)...), false)
	checkValid(t, eq(atom(strings.Repeat("a", 100000)), any1), false)
}

// Syntax trees that are very deep, or endless.
func TestEndless(t *testing.T) {
	checkValid(t, deep(1<<16), false)
	checkValid(t, deepStatement(1<<16), false)
	for _, kind := range kinds {
		for n := 1; n <= 4; n++ {
			x := named(kind, "", slices.Repeat([]api.Syn{v("X")}, n)...)
			for i := range x.Kids {
				x.Kids[i] = x
			}
			checkEndless(t, x)
			x = named(kind, "X", slices.Repeat([]api.Syn{v("X")}, n)...)
			x.Kids[n-1] = x
			checkEndless(t, x)
			x = named(kind, "+", slices.Repeat([]api.Syn{v("X")}, n)...)
			x.Kids[0] = x
			checkEndless(t, x)
		}
	}
}

// checkEndless is checkValid without a message, which would be endless.
func checkEndless(t *testing.T, x api.Syn) {
	t.Helper()
	if parse.Valid(x) {
		t.Errorf("an endless %s is valid", x.Kind)
	}
	if s, e := parse.Print(x); e != api.ErrForm || s != "" {
		t.Errorf("Print of an endless %s: %d", x.Kind, e)
	}
}
