package parse_test

import (
	"math/rand"
	"slices"
	"strconv"
	"strings"
	"testing"

	"leatwork/api"
	"leatwork/lex"
	"leatwork/parse"
)

// found is one of the ways to read tokens from a place on: the syntax trees, and where they end.
type found struct {
	kids []api.Syn
	end  int
}

type place struct {
	word string
	at   int
}

// model finds all ways to read tokens by the forms, and keeps those that are found.
type model struct {
	tokens []api.Token
	known  map[place][]found
}

// modelRead is Parse or Expr by the tables: all ways to read the tokens are looked for, of which there must not be two.
func modelRead(t testing.TB, s string, statement bool) (api.Syn, api.Errno) {
	t.Helper()
	tokens, _, e := lex.Scan(s)
	if e != api.OK {
		return api.Syn{}, e
	}
	if len(tokens) == 0 && statement {
		return skip, api.OK
	}
	m := &model{tokens, map[place][]found{}}
	var whole []api.Syn
	for _, f := range m.all(map[bool]string{true: "S", false: "E"}[statement], 0) {
		if f.end == len(tokens) {
			whole = append(whole, f.kids[0])
		}
	}
	switch {
	case len(whole) > 1:
		t.Fatalf("%q could be read in %d ways", s, len(whole))
	case len(whole) == 0:
		return api.Syn{}, api.ErrForm
	case depth(whole[0]) > api.MaxNest:
		return api.Syn{}, api.ErrLong
	}
	return whole[0], api.OK
}

func (m *model) token(at int) api.Token {
	if at < len(m.tokens) {
		return m.tokens[at]
	}
	return api.Token{}
}

// match is all ways to read words from a place on.
func (m *model) match(words string, at int) []found {
	out := []found{{nil, at}}
	for _, w := range strings.Fields(words) {
		var next []found
		for _, f := range out {
			for _, g := range m.all(w, f.end) {
				next = append(next, found{slices.Concat(f.kids, g.kids), g.end})
			}
		}
		out = next
	}
	return out
}

func (m *model) all(word string, at int) []found {
	out, ok := m.known[place{word, at}]
	if !ok {
		out = m.find(word, at)
		m.known[place{word, at}] = out
	}
	return out
}

func (m *model) find(word string, at int) []found {
	t := m.token(at)
	switch word {
	case "S":
		return m.statements(at)
	case "E":
		return m.operation(0, at)
	case "1", "2", "3", "4":
		return m.operation(int(word[0]-'0'), at)
	case "X", "T":
		if t.Kind == api.TokVar {
			return []found{{[]api.Syn{v(t.Text)}, at + 1}}
		}
		return nil
	case "D":
		return slices.Concat(m.match("X", at), m.build("any", "_", at))
	case "A":
		return m.build("arm", "P then S", at)
	case "P":
		return slices.DeleteFunc(m.match("E", at), func(f found) bool { return !modelPattern(f.kids[0]) })
	case "XX", "EE":
		return slices.Concat(m.match(word[1:], at), m.match(word[1:]+" "+word, at))
	case "DD":
		return slices.Concat(m.match("", at), m.match("D DD", at))
	case "AA":
		return slices.Concat(m.match("A", at), m.match("A [] AA", at))
	case "BB":
		return slices.Concat(m.match("S [] S", at), m.match("S [] BB", at))
	}
	if t.Text == word && (t.Kind == api.TokKeyword || t.Kind == api.TokSymbol) {
		return []found{{nil, at + 1}}
	}
	return nil
}

func modelPattern(x api.Syn) bool {
	if x.Kind != "tuple" {
		return slices.Contains([]string{"var", "any", "int", "atom"}, x.Kind)
	}
	for _, k := range x.Kids {
		if k.Kind == "tuple" || !modelPattern(k) {
			return false
		}
	}
	return modelDifferent(x.Kids)
}

func modelDifferent(xs []api.Syn) bool {
	for i, x := range xs {
		for _, y := range xs[:i] {
			if x.Kind == "var" && equal(x, y) {
				return false
			}
		}
	}
	return true
}

// build is all syntax trees of a kind from a place on, by the words of its form, but for those whose names are not different.
func (m *model) build(kind, words string, at int) []found {
	var out []found
	for _, f := range m.match(words, at) {
		x := node(kind, f.kids...)
		if slices.Contains(strings.Fields(words), "T") {
			x.Text, x.Kids = f.kids[0].Text, f.kids[1:]
		}
		made := x.Kids[:max(0, len(x.Kids)-1)] // of these kinds: all that are no bodies
		switch kind {
		case "let":
			made = x.Kids[:len(x.Kids)-2]
		case "local", "proc", "fun", "lazy", "fn", "pr":
		default:
			made = nil
		}
		if modelDifferent(made) {
			out = append(out, found{[]api.Syn{x}, f.end})
		}
	}
	return out
}

func (m *model) statements(at int) []found {
	var out []found
	for _, f := range m.statement(at) {
		out = append(out, f)
		for _, g := range m.all("S", f.end) {
			rest := g.kids
			if rest[0].Kind == "seq" {
				rest = rest[0].Kids
			}
			out = append(out, found{[]api.Syn{seq(slices.Concat(f.kids, rest)...)}, g.end})
		}
	}
	return out
}

func (m *model) statement(at int) []found {
	var out []found
	for _, kind := range strings.Fields("skip local if case proc fun lazy thread try raise choose") {
		out = append(out, m.build(kind, forms[kind], at)...)
	}
	for _, f := range m.build("if", "if E then S end", at) {
		x := f.kids[0]
		out = append(out, found{[]api.Syn{node("if", x.Kids[0], x.Kids[1], skip)}, f.end})
	}
	for _, f := range m.build("case", "case E of AA end", at) {
		out = append(out, found{[]api.Syn{node("case", slices.Concat(f.kids[0].Kids, []api.Syn{noElse})...)}, f.end})
	}
	if m.token(at).Kind == api.TokKeyword {
		return out
	}
	out = append(out, m.build("eq", "E = E", at)...)
	for _, f := range m.all("E", at) {
		if f.kids[0].Kind == "call" {
			out = append(out, found{[]api.Syn{node("apply", f.kids[0].Kids...)}, f.end})
		}
	}
	return out
}

// operation is all expressions from a place on whose operators are of a level, or stronger.
func (m *model) operation(level, at int) []found {
	if level == 4 {
		return m.operand(at)
	}
	next := strconv.Itoa(level + 1)
	out := slices.Clone(m.all(next, at))
	switch level {
	case 0:
		return append(out, m.operated(m.all(next, at), "|", "E")...)
	case 1:
		return append(out, m.operated(m.all(next, at), `== \= < =< > >=`, next)...)
	}
	for last := out; len(last) > 0; {
		last = m.operated(last, []string{"+ -", "*"}[level-2], next)
		out = append(out, last...)
	}
	return out
}

// operated is all that operators make of expressions that were found and those behind the operators.
func (m *model) operated(lefts []found, operators, right string) []found {
	var out []found
	for _, f := range lefts {
		for _, o := range strings.Fields(operators) {
			for _, g := range m.match(o+" "+right, f.end) {
				out = append(out, found{[]api.Syn{op(o, f.kids[0], g.kids[0])}, g.end})
			}
		}
	}
	return out
}

func (m *model) operand(at int) []found {
	t := m.token(at)
	out := m.match("X", at)
	switch {
	case t.Kind == api.TokInt:
		n, _ := strconv.Atoi(t.Text)
		return []found{{[]api.Syn{integer(n)}, at + 1}}
	case t.Kind == api.TokAtom && len(m.all("(", at+1)) == 0:
		return []found{{[]api.Syn{atom(t.Text)}, at + 1}}
	case t.Kind == api.TokAtom:
		for _, f := range m.match("( EE )", at+1) {
			if len(f.kids) <= api.MaxArity {
				out = append(out, found{[]api.Syn{tuple(t.Text, f.kids...)}, f.end})
			}
		}
		return out
	}
	for _, kind := range strings.Fields("any call fn pr future let cond") {
		out = append(out, m.build(kind, forms[kind], at)...)
	}
	for _, f := range m.match("[ EE ]", at) {
		out = append(out, found{[]api.Syn{list(f.kids...)}, f.end})
	}
	return append(out, m.match("( E )", at)...)
}

// checkModel checks what a source is read as, as a statement and as an expression, and reports whether it is one of them.
func checkModel(t testing.TB, s string) bool {
	t.Helper()
	some := false
	for statement, read := range readers {
		want, wantError := modelRead(t, s, statement)
		got, e := read(s)
		if e != wantError || !equal(got, want) {
			t.Fatalf("%q (a statement: %v) is read as %v, %d, want %v, %d", s, statement, got, e, want, wantError)
		}
		some = some || e == api.OK
		if e == api.OK {
			checkValid(t, got, true)
		}
	}
	return some
}

// All sources of few words: up to 3 of all, and more of some.
func TestModelShort(t *testing.T) {
	all := slices.Concat(keywords, symbols, strings.Fields("a X 1 'if'"))
	some := 0
	checkWords(t, all, 3, &some)
	checkWords(t, strings.Fields("X a ( ) { } [ ] | = < +"), 4, &some)
	checkWords(t, strings.Fields("X a | == + *"), 5, &some)
	checkWords(t, strings.Fields("skip thread end X = local in"), 5, &some)
	if some < 500 {
		t.Errorf("only %d sources that can be read", some)
	}
}

// checkWords checks all sources of up to most words.
func checkWords(t *testing.T, words []string, most int, some *int) {
	short := []string{""}
	for range most {
		var longer []string
		for _, s := range short {
			for _, w := range words {
				longer = append(longer, s+" "+w)
				if checkModel(t, s+" "+w) {
					*some++
				}
			}
		}
		short = longer
	}
}

// loose is a random source of an expression, with fewer parentheses than Print gives.
func (m maker) loose(depth int) string {
	if depth == 0 || m.Intn(4) == 0 {
		return m.pick("X", "Y", "_", "a", "'if'", "1", "~2", "nil", "(X)", "[X a]", "{F}", "f(a)", "'|'(X)")
	}
	switch m.Intn(7) {
	case 0:
		return "(" + m.loose(depth-1) + ")"
	case 1:
		return m.pick("f(", "[", "{F ", "{a ", "'#'(", "[X ") + m.loose(depth-1) + " " + m.loose(depth-1) + m.pick(")", "]", "}")
	}
	return m.loose(depth-1) + m.pick(operators...) + m.loose(depth-1)
}

// Operators in a row, with and without parentheses around some of them.
func TestModelOperators(t *testing.T) {
	m := maker{rand.New(rand.NewSource(1))}
	some := 0
	for range 20000 {
		if checkModel(t, m.loose(1+m.Intn(4))) {
			some++
		}
	}
	if some < 5000 {
		t.Errorf("only %d sources that can be read", some)
	}
}

// change is tokens with a few changes.
func (m maker) change(tokens []api.Token) []api.Token {
	words := strings.Join(slices.Concat(keywords, symbols), " ") + " a b 'end' X Y Z 1 ~2 _ _ [] [] end end ( ) { } in ="
	some, _, _ := lex.Scan(words)
	out := slices.Clone(tokens)
	for range 1 + m.Intn(2) {
		i, j := m.Intn(len(out)+1), m.Intn(len(out)+1)
		i, j = min(i, j), max(i, j)
		switch m.Intn(5) {
		case 0:
			out = slices.Insert(out, i, some[m.Intn(len(some))])
		case 1:
			out = slices.Delete(out, i, min(i+1, len(out)))
		case 2:
			out = slices.Concat(out[:i], []api.Token{some[m.Intn(len(some))]}, out[min(i+1, len(out)):])
		case 3:
			out = slices.Delete(out, i, min(i+1+m.Intn(3), j))
		case 4:
			out = slices.Concat(out[:i], out[j:], out[i:j])
		}
	}
	return out
}

// The sources of random syntax trees, as they are and with changes.
func TestModelChanged(t *testing.T) {
	m := maker{rand.New(rand.NewSource(2))}
	read, refused := 0, 0
	for range 4000 {
		s := byForms(m.either(2+m.Intn(6)), m.Intn(8) == 0)
		if len(s) > 600 {
			continue
		}
		if !checkModel(t, s) {
			t.Fatalf("%q cannot be read", s)
		}
		for range 5 {
			if checkModel(t, text(t, m.change(scan(t, s)))) {
				read++
			} else {
				refused++
			}
		}
	}
	if read < 1000 || refused < 1000 {
		t.Errorf("only %d sources that can be read and %d that cannot", read, refused)
	}
}

// Each row of the tables with one token left out, twice, or another one in its place.
func TestModelRows(t *testing.T) {
	all := slices.Concat(keywords, symbols, strings.Fields("a X Y 1"))
	for _, row := range rows {
		tokens := scan(t, row.source)
		for i := range tokens {
			before, after := text(t, tokens[:i]), text(t, tokens[i+1:])
			this := text(t, tokens[i:i+1])
			checkModel(t, before+" "+after)
			checkModel(t, before+" "+this+" "+this+" "+after)
			for _, w := range all {
				checkModel(t, before+" "+w+" "+after)
				checkModel(t, before+" "+w+" "+this+" "+after)
			}
		}
		for _, w := range all {
			checkModel(t, row.source+" "+w)
		}
	}
}

// Sources of any bytes are refused or read, and what is read is valid.
func TestReadAnything(t *testing.T) {
	m := maker{rand.New(rand.NewSource(3))}
	for range 20000 {
		var s []byte
		for range m.Intn(30) {
			s = append(s, m.pick("X", "a", "'", "(", ")", "{", "}", "[", "]", " ", "=", "|", "if ", " then ", " end", "\\", "%", "\n", "~", "0", "\x00", "\xff")...)
		}
		for _, read := range readers {
			if x, e := read(string(s)); e == api.OK && !parse.Valid(x) || e != api.OK && !equal(x, api.Syn{}) {
				t.Fatalf("%q is read as %v, %d", s, x, e)
			}
		}
	}
}
