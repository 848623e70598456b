package kernel_test

import (
	"slices"
	"strconv"
	"strings"
	"testing"

	"leatwork/api"
	"leatwork/kernel"
	"leatwork/parse"
)

const builtinNames = "Wait IsDet NewCell Exchange NewPort Send Show Label Width Arg"

var (
	skip    = node("skip")
	anyone  = node("any")
	xAndP   = []string{"X", "P"}
	noGiven []string
)

func node(kind string, kids ...api.Syn) api.Syn { return api.Syn{Kind: kind, Kids: kids} }

func named(kind, name string, kids ...api.Syn) api.Syn {
	return api.Syn{Kind: kind, Text: name, Kids: kids}
}

func v(name string) api.Syn { return named("var", name) }

func integer(n int) api.Syn { return api.Syn{Kind: "int", Int: n} }

func parsed(t testing.TB, source string) api.Syn {
	t.Helper()
	x, e := parse.Parse(source)
	if e != api.OK {
		t.Fatalf("Parse(%.200q): %d", source, e)
	}
	return x
}

func makeOf(t testing.TB, x api.Syn, given ...string) api.Prog {
	t.Helper()
	p, e := kernel.Make(x, given)
	if e != api.OK {
		t.Fatalf("Make(%v, %q): %d", x, given, e)
	}
	return p
}

// program is the program of a source.
func program(t testing.TB, source string, given ...string) api.Prog {
	t.Helper()
	p, e := kernel.Make(parsed(t, source), given)
	if e != api.OK {
		t.Fatalf("Make(%.200q, %q): %d", source, given, e)
	}
	return p
}

func text(t testing.TB, p api.Prog) string {
	t.Helper()
	s, e := kernel.Text(p)
	if e != api.OK {
		t.Fatalf("Text(%v): %d", p, e)
	}
	return s
}

// lines are the lines of a text that is written without their numbers, with `;` between them.
func lines(s string) string {
	out := ""
	for i, line := range strings.Split(s, ";") {
		out += strconv.Itoa(i) + " " + strings.TrimSpace(line) + "\n"
	}
	return out
}

// namesAfter are the names behind the given ones, written with blanks between them and `-` for the empty one.
func namesAfter(p api.Prog) string {
	var out []string
	for _, name := range p.Names[p.Given:] {
		if name == "" {
			name = "-"
		}
		out = append(out, name)
	}
	return strings.Join(out, " ")
}

// translation is a source, its given names, and its program: the lines, and the names behind the given ones.
type translation struct{ source, given, lines, names string }

func (x translation) check(t *testing.T) {
	t.Helper()
	p := program(t, x.source, strings.Fields(x.given)...)
	if got := text(t, p); got != lines(x.lines) {
		t.Errorf("%s:\n%s, want\n%s", x.source, got, lines(x.lines))
	}
	if got := namesAfter(p); got != x.names {
		t.Errorf("%s: names %q, want %q", x.source, got, x.names)
	}
	if want := append(strings.Fields(builtinNames), strings.Fields(x.given)...); !slices.Equal(p.Names[:p.Given], want) {
		t.Errorf("%s: given %q, want %q", x.source, p.Names[:p.Given], want)
	}
	if p.Main != len(p.Stmts)-1 || !kernel.Valid(p) {
		t.Errorf("%s: Main %d of %d, Valid %v", x.source, p.Main, len(p.Stmts), kernel.Valid(p))
	}
}

func checkAll(t *testing.T, list []translation) {
	t.Helper()
	for _, x := range list {
		x.check(t)
	}
}

// checkRefused checks that Make refuses a statement.
func checkRefused(t testing.TB, x api.Syn, given []string, want api.Errno) {
	t.Helper()
	if p, e := kernel.Make(x, given); e != want || !isZero(p) {
		t.Errorf("Make(%.300q, %q) = %v, %d, want %d", shown(x), given, p, e, want)
	}
}

func isZero(p api.Prog) bool {
	return len(p.Stmts) == 0 && len(p.Names) == 0 && p.Given == 0 && p.Main == 0
}

// shown is a source of a syntax tree, if it has one.
func shown(x api.Syn) string {
	if s, e := parse.Print(x); e == api.OK {
		return s
	}
	return x.Kind + " .."
}

func equalStmts(a, b api.Stmt) bool {
	return a.Op == b.Op && a.Text == b.Text && a.Int == b.Int && slices.Equal(a.Vars, b.Vars) && slices.Equal(a.Parts, b.Parts) && slices.Equal(a.Free, b.Free)
}

// equal reports whether programs are equal, a nil slice and an empty one being the same.
func equal(a, b api.Prog) bool {
	return slices.EqualFunc(a.Stmts, b.Stmts, equalStmts) && slices.Equal(a.Names, b.Names) && a.Given == b.Given && a.Main == b.Main
}

func clone(p api.Prog) api.Prog {
	out := p
	out.Names = slices.Clone(p.Names)
	out.Stmts = nil
	for _, s := range p.Stmts {
		s.Vars, s.Parts, s.Free = slices.Clone(s.Vars), slices.Clone(s.Parts), slices.Clone(s.Free)
		out.Stmts = append(out.Stmts, s)
	}
	return out
}

// progOf is a program with some statements, the last one of which is Main, some given names behind the builtins, and names behind these.
func progOf(given, others string, stmts ...api.Stmt) api.Prog {
	names := append(strings.Fields(builtinNames), strings.Fields(given)...)
	p := api.Prog{Stmts: stmts, Given: len(names), Main: len(stmts) - 1}
	p.Names = append(names, strings.Fields(others)...)
	for i, name := range p.Names {
		if name == "-" {
			p.Names[i] = ""
		}
	}
	return p
}

// checkValid checks whether a program is valid, and that all functions say the same.
func checkValid(t testing.TB, what string, p api.Prog, want bool) {
	t.Helper()
	if kernel.Valid(p) != want {
		t.Errorf("%s: Valid(%v), want %v", what, p, want)
	}
	s, e := kernel.Text(p)
	if (e != api.ErrForm) != want || e != api.OK && s != "" {
		t.Errorf("%s: Text = %.200q, %d", what, s, e)
	}
	ok, e := kernel.Declarative(p)
	if (e != api.ErrForm) != want || e != api.OK && ok {
		t.Errorf("%s: Declarative = %v, %d", what, ok, e)
	}
	for _, s := range []int{0, len(p.Stmts) - 1, -1, len(p.Stmts)} {
		l, e := kernel.Free(p, s)
		if (e != api.ErrForm) != want || e != api.OK && len(l) > 0 {
			t.Errorf("%s: Free(%d) = %v, %d", what, s, l, e)
		}
	}
}
