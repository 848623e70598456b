package tree_test

import (
	"math/rand"
	"strconv"
	"strings"
	"testing"

	"leatwork/api"
	"leatwork/tree"
)

func TestTextExamples(t *testing.T) {
	for _, x := range []struct {
		in   api.Tree
		want string
	}{
		{graph(integer(0)), "0"},
		{graph(integer(-12)), "-12"},
		{graph(integer(api.MaxInt)), "1099511627776"},
		{graph(integer(-api.MaxInt)), "-1099511627776"},
		{graph(atom("nil")), "nil"},
		{graph(atom("|")), "|"},
		{graph(atom("#")), "#"},
		{graph(atom("aB_9")), "aB_9"},
		{graph(variable(0)), "_0"},
		{graph(variable(1<<63 - 1)), "_9223372036854775807"},
		{graph(name("proc", 0)), "<proc 0>"},
		{graph(name("cell", 12)), "<cell 12>"},
		{graph(name("port", 1<<63-1)), "<port 9223372036854775807>"},
		{graph(tuple("f", 1), tuple("f", 2), atom("a")), "f(f(a))"},
		{graph(tuple("f", 0)), "0=f(@0)"},
		{graph(tuple("f", 1), tuple("f", 0)), "0=f(@0)"},
		{graph(tuple("|", 1, 2), integer(1), tuple("|", 3, 4), integer(2), atom("nil")), "(1|(2|nil))"},
		{graph(tuple("g", 1, 1), tuple("h", 2), integer(1)), "g(h(1) h(1))"},
		{graph(tuple("|", 1), variable(7)), "|(_7)"},
		{graph(tuple("|", 1, 1, 1), atom("|")), "|(| | |)"},
		{graph(tuple("|", 1, 1), atom("|")), "(|||)"},
		{graph(tuple("|", 1, 2), tuple("|", 3), tuple("|", 3, 3), integer(1)), "(|(1)|(1|1))"},
		{graph(tuple("#", 1, 1), atom("#")), "#(# #)"},
		{graph(tuple("|", 0, 0)), "0=(@0|@0)"},
		{graph(tuple("|", 1, 0), integer(1)), "0=(1|@0)"},
		{graph(tuple("f", 1, 1, 1, 1, 1, 1, 1, 1), atom("x")), "f(x x x x x x x x)"},
		// A tuple has its number before it just where it is met within itself.
		{graph(tuple("h", 1, 2), tuple("f", 2), tuple("g", 1)), "h(1=f(g(@1)) 2=g(f(@2)))"},
		{graph(tuple("h", 1, 1), tuple("f", 1)), "h(1=f(@1) 1=f(@1))"},
		{graph(tuple("f", 1, 1), tuple("g", 0)), "0=f(g(@0) g(@0))"},
		{graph(tuple("f", 1, 0), tuple("g", 1, 0)), "0=f(1=g(@1 @0) @0)"},
		{graph(tuple("f", 1, 2), tuple("g", 2), tuple("h", 1, 0)), "0=f(1=g(h(@1 @0)) 2=h(g(@2) @0))"},
		// The number is that of the least graph.
		{graph(tuple("f", 2, 3), atom("b"), integer(5), tuple("g", 4), tuple("g", 3)), "f(5 2=g(@2))"},
	} {
		if got := text(t, x.in); got != x.want {
			t.Errorf("Text(%v) = %q, want %q", x.in, got, x.want)
		}
		if got := parsed(t, x.want); !equal(got, least(t, x.in)) {
			t.Errorf("Parse(%q) = %v, want %v", x.want, got, least(t, x.in))
		}
	}
}

// written is the text of a least graph, as the chapter says it, if that is not too long.
func written(x api.Tree, n int, open []int) string {
	node := x.Nodes[n]
	for _, o := range open {
		if o == n {
			return "@" + strconv.Itoa(n)
		}
	}
	switch node.Kind {
	case api.Free:
		return "_" + strconv.Itoa(node.Int)
	case api.Int:
		return strconv.Itoa(node.Int)
	case api.Atom:
		return node.Label
	case api.Name:
		return "<" + node.Label + " " + strconv.Itoa(node.Int) + ">"
	}
	var parts []string
	inside := append(append([]int(nil), open...), n)
	for _, a := range node.Args {
		parts = append(parts, written(x, a, inside))
	}
	before := ""
	for _, p := range parts {
		for _, word := range strings.FieldsFunc(p, func(c rune) bool { return strings.ContainsRune("(|) =", c) }) {
			if word == "@"+strconv.Itoa(n) {
				before = strconv.Itoa(n) + "="
			}
		}
	}
	if node.Label == "|" && len(parts) == 2 {
		return before + "(" + parts[0] + "|" + parts[1] + ")"
	}
	return before + node.Label + "(" + strings.Join(parts, " ") + ")"
}

// P1.3
func TestParseOfText(t *testing.T) {
	r := rand.New(rand.NewSource(11))
	list := smallGraphs()
	for range 3000 {
		list = append(list, randomGraph(r, 6))
	}
	for _, x := range list {
		l := least(t, x)
		want := written(l, 0, nil)
		got, e := tree.Text(x)
		if len(want) > api.MaxText {
			if e != api.ErrLong || got != "" {
				t.Fatalf("Text(%v) = %q, %d", x, got, e)
			}
			continue
		}
		if e != api.OK || got != want {
			t.Fatalf("Text(%v) = %q, %d, want %q", x, got, e, want)
		}
		if y := parsed(t, got); !equal(y, l) {
			t.Fatalf("Parse(%q) = %v, want %v", got, y, l)
		}
	}
}

// checkParse checks that s is malformed, or the text of the tree that it is read as.
func checkParse(t *testing.T, s string) bool {
	t.Helper()
	x, e := tree.Parse(s)
	if e == api.ErrForm && equal(x, api.Tree{}) {
		return false
	}
	if e != api.OK || !tree.Valid(x) || !equal(x, least(t, x)) || text(t, x) != s {
		t.Fatalf("Parse(%q) = %v, %d", s, x, e)
	}
	return true
}

// P1.3: all short strings over the bytes that texts have.
func TestTextOfParse(t *testing.T) {
	const bytes = "af1 0|#@=()_-<>"
	count := 0
	var try func(s string, more int)
	try = func(s string, more int) {
		if checkParse(t, s) {
			count++
		}
		if more > 0 {
			for i := range len(bytes) {
				try(s+bytes[i:i+1], more-1)
			}
		}
	}
	try("", 5)
	if count < 1000 {
		t.Errorf("only %d strings are texts", count)
	}
}

// P1.3: texts in which a byte is changed, left out, or put in.
func TestParseOfChangedTexts(t *testing.T) {
	r := rand.New(rand.NewSource(12))
	const bytes = "afgA1029 |#@=()_-<>\x00\xff"
	for range 30000 {
		s, e := tree.Text(randomGraph(r, 5))
		if e != api.OK || len(s) > 300 {
			continue
		}
		at := r.Intn(len(s))
		b := bytes[r.Intn(len(bytes))]
		checkParse(t, s[:at]+string([]byte{b})+s[at+1:])
		checkParse(t, s[:at]+string([]byte{b})+s[at:])
		checkParse(t, s[:at]+s[at+1:])
		checkParse(t, s[:at])
	}
}

func TestParseMalformed(t *testing.T) {
	for _, s := range []string{
		"", " ", "a ", " a", "A", "f()", "f(a", "f a", "f(a))", "f( a)", "f(a )", "f(a  b)", "f(a,b)", "f(a|b)", "f(a)(b)", "(a)", "(a b)", "()", "(|)", "(a|b|c)", "(a|b", "|(a b)", "#()",
		"01", "-0", "-", "--1", "+1", "1a", "00", "1_0", "1099511627777", "-1099511627777", "99999999999999999999999999",
		"_", "_01", "_-1", "_a", "_9223372036854775808", "_ 1",
		"<proc>", "<proc >", "<proc 01>", "<proc -1>", "<proc  1>", "<proc 1", "<Proc 1>", "<a 1>", "< 1>", "<proc 1 >", "<proc 9223372036854775808>", "proc 1",
		"@0", "@", "f(@0)", "f(@1)", "0=f(a)", "1=f(@1)", "0=f(@1)", "0=f(f(@0))", "0=0=f(@0)", "0=@0", "0=1", "0=a", "0=", "=f(@0)", "00=f(@0)", "0=f(@00)", "0=f(0=f(@0))", "0=f(@-0)", "-0=f(@-0)", "-1=f(@-1)",
		"h(1=f(@1) f(@1))", "h(1=f(@1) @1)", "h(1=f(@1) 2=f(@2))", "f(1=g(@1) 1=h(@1))", "h(f(1=g(f(@1))))",
		"aaaaaaaaaaaaaaaaa", "aaaaaaaaaaaaaaaaa(b)", "f(1 2 3 4 5 6 7 8 9)", "a-b", "aé", "a\x00", "\x00", "a\n", "||", "|a", "##", "f(a\x00b)",
	} {
		if x, e := tree.Parse(s); e != api.ErrForm || !equal(x, api.Tree{}) {
			t.Errorf("Parse(%q) = %v, %d", s, x, e)
		}
	}
	for _, s := range []string{
		"aaaaaaaaaaaaaaaa", "aaaaaaaaaaaaaaaa(b)", "f(1 2 3 4 5 6 7 8)", "1099511627776", "-1099511627776", "_9223372036854775807", "<port 9223372036854775807>", "(|||)", "(#|#(#))",
	} {
		if !checkParse(t, s) {
			t.Errorf("Parse(%q) is malformed", s)
		}
	}
}

// longText is a tree whose text has 3 * count bytes and those of its last atom.
func longText(count int, last string) api.Tree { return chain(count+1, atom(last)) }

func TestTextLimit(t *testing.T) {
	fits, long := longText(1330, strings.Repeat("a", 10)), longText(1330, strings.Repeat("a", 11))
	s := text(t, fits)
	if len(s) != api.MaxText || !equal(parsed(t, s), fits) {
		t.Errorf("a text of %d bytes is not read", len(s))
	}
	if got, e := tree.Text(long); e != api.ErrLong || got != "" {
		t.Errorf("Text = %q, %d", got, e)
	}
	// What is put before a tuple at last counts, too: 0= and @0.
	ring := longText(1330, strings.Repeat("a", 3))
	ring.Nodes[1329] = tuple("f", 1330, 0)
	if s := text(t, ring); len(s) != 3990+3+3+2 || !equal(parsed(t, s), ring) {
		t.Errorf("a text of %d bytes is not read", len(s))
	}
	for more, want := range []api.Errno{api.OK, api.OK, api.OK, api.ErrLong, api.ErrLong, api.ErrLong} {
		ring.Nodes[1330] = atom(strings.Repeat("a", 3+more))
		if s, e := tree.Text(ring); e != want || e == api.OK && len(s) != 3998+more {
			t.Errorf("Text: %d bytes, %d", len(s), e)
		}
	}
}

func TestTextOfManyParts(t *testing.T) {
	var x api.Tree // its text would have more than 2^8000 bytes
	for i := range api.MaxNodes - 1 {
		x.Nodes = append(x.Nodes, tuple("g", i+1, i+1))
	}
	x.Nodes = append(x.Nodes, atom("a"))
	if s, e := tree.Text(x); e != api.ErrLong || s != "" {
		t.Errorf("Text = %q, %d", s, e)
	}
	if s, e := tree.Text(chain(api.MaxNodes, tuple("f", 0))); e != api.OK || s != "0=f(@0)" {
		t.Errorf("Text = %q, %d", s, e)
	}
}

func TestParseLimit(t *testing.T) {
	for _, s := range []string{strings.Repeat("(", api.MaxText+1), strings.Repeat("a", api.MaxText+1), strings.Repeat("f(", 1998) + "aaaaaa"} {
		x, e := tree.Parse(s)
		want := api.ErrForm
		if len(s) > api.MaxText { // it comes before ErrForm
			want = api.ErrLong
		}
		if e != want || !equal(x, api.Tree{}) {
			t.Errorf("Parse of %d bytes: %v, %d", len(s), x, e)
		}
	}
	for _, s := range []string{strings.Repeat("(", api.MaxText), strings.Repeat("f(", api.MaxText/2), strings.Repeat("0=f(", api.MaxText/4), strings.Repeat("a", api.MaxText), strings.Repeat("9", api.MaxText)} {
		if _, e := tree.Parse(s); e != api.ErrForm {
			t.Errorf("Parse of %d bytes: %d", len(s), e)
		}
	}
}

// A string that fits, although the text of the tree that it seems to be does not: its numbers are longer.
func TestParseOfLongerText(t *testing.T) {
	s := "nil"
	for range 280 {
		s = "(1=f(@1)|" + s + ")"
	}
	for i := range 150 {
		s = "(" + strconv.Itoa(i) + "|" + s + ")"
	}
	if len(s) > api.MaxText || len(s)+280*4 <= api.MaxText {
		t.Fatalf("the string has %d bytes", len(s))
	}
	if x, e := tree.Parse(s); e != api.ErrForm || !equal(x, api.Tree{}) {
		t.Errorf("Parse of %d bytes: %v, %d", len(s), x, e)
	}
}
