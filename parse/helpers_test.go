package parse_test

import (
	"math/rand"
	"slices"
	"strconv"
	"strings"
	"testing"

	"leatwork/api"
	"leatwork/lex"
	"leatwork/parse"
)

var (
	keywords  = strings.Fields("skip local in end if then else case of proc fun thread try catch raise lazy choose")
	symbols   = strings.Fields(`{ } ( ) [ ] [] | $ = == \= < =< > >= + - * _`)
	operators = strings.Fields(`| == \= < =< > >= + - *`)
	skip      = node("skip")
	any1      = node("any")
	noElse    = node("raise", atom("noelse"))
)

func node(kind string, kids ...api.Syn) api.Syn { return api.Syn{Kind: kind, Kids: kids} }

func named(kind, name string, kids ...api.Syn) api.Syn {
	return api.Syn{Kind: kind, Text: name, Kids: kids}
}

func v(name string) api.Syn { return named("var", name) }

func atom(s string) api.Syn { return named("atom", s) }

func integer(n int) api.Syn { return api.Syn{Kind: "int", Int: n} }

func tuple(label string, kids ...api.Syn) api.Syn { return named("tuple", label, kids...) }

// op is what an operator makes of two expressions.
func op(operator string, x, y api.Syn) api.Syn {
	if operator == "|" {
		return tuple("|", x, y)
	}
	return named("op", operator, x, y)
}

func eq(x, y api.Syn) api.Syn { return node("eq", x, y) }

func seq(kids ...api.Syn) api.Syn { return node("seq", kids...) }

// apply is a procedure that is applied to expressions.
func apply(name string, kids ...api.Syn) api.Syn {
	return node("apply", append([]api.Syn{v(name)}, kids...)...)
}

func call(name string, kids ...api.Syn) api.Syn {
	return node("call", append([]api.Syn{v(name)}, kids...)...)
}

func arm(pattern, s api.Syn) api.Syn { return node("arm", pattern, s) }

// list is a list of expressions.
func list(xs ...api.Syn) api.Syn {
	out := atom("nil")
	for _, x := range slices.Backward(xs) {
		out = tuple("|", x, out)
	}
	return out
}

func equal(x, y api.Syn) bool {
	return x.Kind == y.Kind && x.Text == y.Text && x.Int == y.Int && slices.EqualFunc(x.Kids, y.Kids, equal)
}

func depth(x api.Syn) int {
	most := 0
	for _, k := range x.Kids {
		most = max(most, depth(k))
	}
	return 1 + most
}

func clone(x api.Syn) api.Syn {
	out := x
	out.Kids = nil
	for _, k := range x.Kids {
		out.Kids = append(out.Kids, clone(k))
	}
	return out
}

// readers are the functions that read, by whether they read statements.
var readers = map[bool]func(string) (api.Syn, api.Errno){true: parse.Parse, false: parse.Expr}

func isStatement(x api.Syn) bool {
	switch x.Kind {
	case "skip", "seq", "local", "eq", "if", "case", "apply", "proc", "fun", "lazy", "thread", "try", "raise", "choose":
		return true
	}
	return false
}

// checkRead checks what a source is read as: a statement, if want is one.
func checkRead(t testing.TB, source string, want api.Syn) {
	t.Helper()
	got, e := readers[isStatement(want)](source)
	if e != api.OK || !equal(got, want) {
		t.Errorf("%.200q is read as %v, %d, want %v", source, got, e, want)
	}
}

func checkPrint(t testing.TB, x api.Syn, want string) {
	t.Helper()
	if got, e := parse.Print(x); e != api.OK || got != want {
		t.Errorf("Print(%v) = %.200q, %d, want %.200q", x, got, e, want)
	}
}

// checkBoth checks that a source is read as a valid syntax tree, how that is printed, and that this is read as the same.
func checkBoth(t testing.TB, source string, x api.Syn, printed string) {
	t.Helper()
	checkRead(t, source, x)
	checkValid(t, x, true)
	checkPrint(t, x, printed)
	checkRead(t, printed, x)
}

// checkRefused checks that Parse refuses a source.
func checkRefused(t testing.TB, source string, want api.Errno) {
	t.Helper()
	if got, e := parse.Parse(source); e != want || !equal(got, api.Syn{}) {
		t.Errorf("Parse(%.200q) = %v, %d, want %d", source, got, e, want)
	}
}

func checkExprRefused(t testing.TB, source string, want api.Errno) {
	t.Helper()
	if got, e := parse.Expr(source); e != want || !equal(got, api.Syn{}) {
		t.Errorf("Expr(%.200q) = %v, %d, want %d", source, got, e, want)
	}
}

// checkValid checks whether a syntax tree is valid, and that Print returns ErrForm just if it is not.
func checkValid(t testing.TB, x api.Syn, want bool) {
	t.Helper()
	if parse.Valid(x) != want {
		t.Errorf("Valid(%v), want %v", x, want)
	}
	if s, e := parse.Print(x); (e != api.ErrForm) != want || e != api.OK && s != "" {
		t.Errorf("Print(%v) = %.200q, %d", x, s, e)
	}
}

// checkWithin checks whether an expression is valid, alone and where a statement asks for it.
func checkWithin(t testing.TB, x api.Syn, want bool) {
	t.Helper()
	checkValid(t, x, want)
	checkValid(t, eq(v("X"), x), want)
	checkValid(t, eq(x, v("X")), want)
	checkValid(t, apply("P", x), want)
}

func scan(t testing.TB, s string) []api.Token {
	t.Helper()
	tokens, _, e := lex.Scan(s)
	if e != api.OK {
		t.Fatalf("Scan(%.200q): %d", s, e)
	}
	return tokens
}

func text(t testing.TB, tokens []api.Token) string {
	t.Helper()
	s, e := lex.Text(tokens)
	if e != api.OK {
		t.Fatalf("Text(%v): %d", tokens, e)
	}
	return s
}

// quoted is an atom as a source has it.
func quoted(s string) string {
	if s == "|" || s == "#" || lex.Keyword(s) {
		return "'" + s + "'"
	}
	return s
}

// maker makes random syntax trees.
type maker struct{ *rand.Rand }

func (m maker) pick(words ...string) string { return words[m.Intn(len(words))] }

func (m maker) identifier() string { return m.pick("X", "Y", "Z", "Fun", "A_1", "Abcdefghijklmnop") }

func (m maker) atom() string {
	return m.pick("a", "b", "nil", "|", "#", "if", "end", "fun", "lazy", "abcdefghijklmnop")
}

// identifiers is some identifiers that are different.
func (m maker) identifiers(least int) []api.Syn {
	var out []api.Syn
	for _, i := range m.Perm(4)[:least+m.Intn(3)] {
		out = append(out, v([]string{"X", "Y", "Z", "Abc"}[i]))
	}
	return out
}

// parameters is some identifiers that are different, and places without a name among them.
func (m maker) parameters() []api.Syn {
	out := m.identifiers(0)
	for range m.Intn(3) {
		out = slices.Insert(out, m.Intn(len(out)+1), any1)
	}
	return out
}

func (m maker) plain() api.Syn {
	switch m.Intn(5) {
	case 0:
		return any1
	case 1:
		return integer(m.Intn(2*api.MaxInt+1) - api.MaxInt)
	case 2:
		return integer(m.Intn(5) - 2)
	case 3:
		return atom(m.atom())
	}
	return v(m.identifier())
}

func (m maker) pattern() api.Syn {
	if m.Intn(2) == 0 {
		return m.plain()
	}
	kids := m.parameters()
	for len(kids) == 0 || len(kids) < api.MaxArity && m.Intn(2) == 0 {
		kids = append(kids, m.plainButVar())
	}
	m.Shuffle(len(kids), func(i, j int) { kids[i], kids[j] = kids[j], kids[i] })
	return tuple(m.atom(), kids...)
}

func (m maker) plainButVar() api.Syn {
	for {
		if x := m.plain(); x.Kind != "var" {
			return x
		}
	}
}

// some is some syntax trees that make makes.
func (m maker) some(least, most int, make func(int) api.Syn, depth int) []api.Syn {
	var out []api.Syn
	for range least + m.Intn(most-least+1) {
		out = append(out, make(depth))
	}
	return out
}

// expression is a random expression of at most depth levels.
func (m maker) expression(depth int) api.Syn {
	if depth < 3 || m.Intn(8) == 0 {
		return m.plain()
	}
	kind := m.pick("tuple", "tuple", "|", "op", "op", "call", "fn", "pr", "future", "let", "cond")
	d := depth - 1
	switch kind {
	case "tuple":
		return tuple(m.atom(), m.some(1, 4, m.expression, d)...)
	case "|":
		return tuple("|", m.expression(d), m.expression(d))
	case "op":
		return named("op", m.pick(operators[1:]...), m.expression(d), m.expression(d))
	case "call":
		return node(kind, m.some(1, 4, m.expression, d)...)
	case "fn":
		return node(kind, append(m.parameters(), m.expression(d))...)
	case "pr":
		return node(kind, append(m.parameters(), m.statement(d))...)
	case "future":
		return node(kind, m.expression(d))
	case "let":
		return node(kind, append(m.identifiers(1), m.statement(d), m.expression(d))...)
	}
	return node(kind, m.some(3, 3, m.expression, d)...)
}

// statement is a random statement of at most depth levels, of which there are at least two.
func (m maker) statement(depth int) api.Syn {
	if depth < 4 || m.Intn(8) == 0 {
		return m.small()
	}
	d := depth - 1
	if m.Intn(4) == 0 {
		return seq(m.some(2, 4, m.single, d)...)
	}
	return m.single(depth)
}

func (m maker) small() api.Syn {
	switch m.Intn(3) {
	case 0:
		return skip
	case 1:
		return node("apply", m.plain(), m.plain())
	}
	return eq(m.plain(), m.plain())
}

// single is a random statement that is no seq.
func (m maker) single(depth int) api.Syn {
	if depth < 4 {
		return m.small()
	}
	d := depth - 1
	switch kind := m.pick("local", "eq", "eq", "if", "case", "apply", "proc", "fun", "lazy", "thread", "try", "raise", "choose"); kind {
	case "local":
		return node(kind, append(m.identifiers(1), m.statement(d))...)
	case "eq":
		return eq(m.expression(d), m.expression(d))
	case "if":
		return node(kind, m.expression(d), m.statement(d), m.statement(d))
	case "case":
		kids := append([]api.Syn{m.expression(d)}, m.some(1, 3, m.arm, d)...)
		return node(kind, append(kids, m.statement(d))...)
	case "apply":
		return node(kind, m.some(1, 4, m.expression, d)...)
	case "proc":
		return named(kind, m.identifier(), append(m.parameters(), m.statement(d))...)
	case "fun", "lazy":
		return named(kind, m.identifier(), append(m.parameters(), m.expression(d))...)
	case "thread":
		return node(kind, m.statement(d))
	case "try":
		return node(kind, m.statement(d), v(m.identifier()), m.statement(d))
	case "raise":
		return node(kind, m.expression(d))
	default:
		return node(kind, m.some(2, 3, m.statement, d)...)
	}
}

func (m maker) arm(depth int) api.Syn { return arm(m.pattern(), m.statement(depth-1)) }

// either is a random statement or a random expression.
func (m maker) either(depth int) api.Syn {
	if m.Intn(3) == 0 {
		return m.expression(depth)
	}
	return m.statement(depth)
}

// forms are the rows of both tables with a syntax of their own, as words: S, E, P, A, X and D as the chapter says, XX, EE and SS one or more, DD any number, AA one or more with [] between them, BB two or more statements with [] between them, T the name, and others keywords or symbols.
var forms = map[string]string{
	"skip":   "skip",
	"seq":    "SS",
	"local":  "local XX in S end",
	"eq":     "E = E",
	"if":     "if E then S else S end",
	"case":   "case E of AA else S end",
	"arm":    "P then S",
	"apply":  "{ EE }",
	"proc":   "proc { T DD } S end",
	"fun":    "fun { T DD } E end",
	"lazy":   "fun lazy { T DD } E end",
	"thread": "thread S end",
	"try":    "try S catch X then S end",
	"raise":  "raise E end",
	"choose": "choose BB end",
	"any":    "_",
	"call":   "{ EE }",
	"fn":     "fun { $ DD } E end",
	"pr":     "proc { $ DD } S end",
	"future": "thread E end",
	"let":    "local XX in S in E end",
	"cond":   "if E then E else E end",
}

// printer prints syntax trees of any form, valid or not. Its words begin with a blank if they are atoms that are no labels.
type printer struct {
	full  bool // whether each expression is in parentheses
	words []string
}

// byForms is a syntax tree as Print gives it, or, if full, with more parentheses.
func byForms(x api.Syn, full bool) string {
	p := &printer{full: full}
	p.tree(x)
	out := p.words
	for i := len(out) - 1; i >= 0; i-- {
		if strings.HasPrefix(out[i], " ") {
			out[i] = out[i][1:]
			if i+1 < len(out) && out[i+1] == "(" {
				out = slices.Concat(out[:i], []string{"(", out[i], ")"}, out[i+1:])
			}
		}
	}
	return strings.Join(out, " ")
}

func (p *printer) put(words ...string) { p.words = append(p.words, words...) }

func (p *printer) expression(x api.Syn) {
	if !p.full || isStatement(x) {
		p.tree(x)
		return
	}
	p.put("(")
	p.tree(x)
	p.put(")")
}

func (p *printer) tree(x api.Syn) {
	switch x.Kind {
	case "var":
		p.put(x.Text)
	case "int":
		p.put(strings.Replace(strconv.Itoa(x.Int), "-", "~", 1))
	case "atom":
		p.put(" " + quoted(x.Text))
	case "op":
		p.put("(")
		p.all(x.Kids, x.Text, p.expression)
		p.put(")")
	case "tuple":
		if x.Text == "|" && len(x.Kids) == 2 {
			p.put("(")
			p.all(x.Kids, "|", p.expression)
			p.put(")")
			return
		}
		p.put(quoted(x.Text), "(")
		p.all(x.Kids, "", p.expression)
		p.put(")")
	default:
		p.form(x)
	}
}

// all prints syntax trees with a word between them, if it is not empty.
func (p *printer) all(xs []api.Syn, between string, each func(api.Syn)) {
	for i, x := range xs {
		if i > 0 && between != "" {
			p.put(between)
		}
		each(x)
	}
}

// form prints by the tables. If there are too few or too many kids, anything else comes of it.
func (p *printer) form(x api.Syn) {
	kids := x.Kids
	words := strings.Fields(forms[x.Kind])
	left := 0 // how many kids the words other than the repeated one take
	for _, w := range words {
		if len(w) == 1 && strings.Contains("SEPXDA", w) {
			left++
		}
	}
	for i, w := range words {
		switch w {
		case "T":
			p.put(x.Text)
		case "SS", "XX", "EE", "DD", "AA", "BB":
			n := max(0, len(kids)-left)
			p.all(kids[:n], map[string]string{"AA": "[]", "BB": "[]"}[w], map[bool]func(api.Syn){true: p.expression, false: p.tree}[w == "EE"])
			kids = kids[n:]
		case "S", "E", "P", "X", "A":
			left--
			if len(kids) == 0 {
				continue
			}
			keyword := x.Kind == "eq" && i == 0 && !p.full && slices.Contains([]string{"fn", "pr", "future", "let", "cond"}, kids[0].Kind)
			if keyword {
				p.put("(")
			}
			if w == "E" || w == "P" {
				p.expression(kids[0])
			} else {
				p.tree(kids[0])
			}
			if keyword {
				p.put(")")
			}
			kids = kids[1:]
		default:
			p.put(w)
		}
	}
	p.all(kids, "", p.tree)
}

func parsed(t testing.TB, s string) api.Syn {
	t.Helper()
	x, e := parse.Parse(s)
	if e != api.OK {
		t.Fatalf("Parse(%.200q): %d", s, e)
	}
	return x
}
