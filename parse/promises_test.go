package parse_test

import (
	"math/rand"
	"strings"
	"testing"

	"leatwork/api"
	"leatwork/parse"
)

// printed is the source of a valid syntax tree, if it is not too long.
func printed(t testing.TB, x api.Syn) (string, bool) {
	t.Helper()
	s, e := parse.Print(x)
	if e != api.OK && e != api.ErrLong || (e == api.OK) != (s != "") {
		t.Fatalf("Print(%v) = %q, %d", x, s, e)
	}
	return s, e == api.OK
}

// manyTrees calls check with many random syntax trees and their sources.
func manyTrees(t *testing.T, seed int64, count int, check func(m maker, x api.Syn, s string)) {
	t.Helper()
	m := maker{rand.New(rand.NewSource(seed))}
	kinds, long := map[string]int{}, 0
	for range count {
		x := m.either(2 + m.Intn(7))
		s, ok := printed(t, x)
		if !ok {
			long++
			continue
		}
		kinds[x.Kind]++
		check(m, x, s)
	}
	if len(kinds) != 26 || long > count/5 {
		t.Errorf("%d trees are too long; of the others there are %v", long, kinds)
	}
}

// P4.1, P4.3: Parse or Expr of Print is the syntax tree, which is valid, and is printed as the tables say.
func TestReadOfPrint(t *testing.T) {
	manyTrees(t, 5, 10000, func(m maker, x api.Syn, s string) {
		checkRead(t, s, x)
		if !parse.Valid(x) {
			t.Fatalf("Valid(%q) = false", s)
		}
		if want := byForms(x, false); s != want {
			t.Fatalf("Print = %q, want %q", s, want)
		}
		if again := text(t, scan(t, s)); again != s {
			t.Fatalf("Print = %q, which are the tokens %q", s, again)
		}
	})
}

// P4.2, P4.3: Print of what is read, read again, is the same, and valid.
func TestPrintOfRead(t *testing.T) {
	m := maker{rand.New(rand.NewSource(6))}
	read := 0
	for range 30000 {
		s := m.loose(1 + m.Intn(4))
		if m.Intn(2) == 0 {
			s = m.loose(2) + " = " + s + " {F " + m.loose(2) + "}"
		}
		for statement, reader := range readers {
			x, e := reader(s)
			if e != api.OK {
				continue
			}
			read++
			if !parse.Valid(x) || isStatement(x) != statement {
				t.Fatalf("%q is read as %v", s, x)
			}
			if written, ok := printed(t, x); ok {
				checkRead(t, written, x)
			}
		}
	}
	if read < 10000 {
		t.Errorf("only %d sources that can be read", read)
	}
}

func (m maker) gap(least int) string {
	out := ""
	for range least + m.Intn(3) {
		out += m.pick(" ", "\n", "\t", "  ", "\n\n", "%\n", "% end ' # 01 \\ )\n", "%%\n", "%\x00\xff\r\n")
	}
	return out
}

// P4.4: whatever is between tokens, the syntax tree is the same; where tokens end without it, nothing need be.
func TestSpaces(t *testing.T) {
	manyTrees(t, 7, 5000, func(m maker, x api.Syn, s string) {
		spaced := m.gap(0)
		tokens := scan(t, s)
		for i := range tokens {
			token := text(t, tokens[i:i+1])
			if i > 0 && touches(spaced[len(spaced)-1:], token) {
				spaced += m.gap(1)
			}
			spaced += token + m.gap(0)
		}
		spaced += m.pick("", "%", "% end")
		if len(spaced) <= api.MaxText {
			checkRead(t, spaced, x)
		}
	})
	for _, r := range rows {
		for _, gap := range []string{"\n", "\t", "   ", " % a\n", "%\n%'\n"} {
			var words []string
			tokens := scan(t, r.source)
			for i := range tokens {
				words = append(words, text(t, tokens[i:i+1]))
			}
			checkRead(t, gap+strings.Join(words, gap)+gap, r.tree)
		}
	}
}

// touches reports whether the last byte of a source and a token behind it could be read as something else.
func touches(last, token string) bool {
	const letters = "abcdefghijklmnopqrstuvwxyzABCDEFGHIJKLMNOPQRSTUVWXYZ0123456789_"
	word := func(s string) bool { return strings.Contains(letters, s) }
	return word(last) && (word(token[:1])) || strings.Contains("=\\<>[]", last) && strings.Contains("=\\<>[]", token[:1])
}

// P4.4: a remark or a blank within a token is not between tokens.
func TestSpacesWithin(t *testing.T) {
	checkRead(t, "X=1%2", eq(v("X"), integer(1)))
	checkRead(t, "X=1%\n2=Y", seq(eq(v("X"), integer(1)), eq(integer(2), v("Y"))))
	checkRead(t, "X=[a]%]", eq(v("X"), list(atom("a"))))
	checkRefused(t, "choose skip [ ] skip end", api.ErrForm)
	checkRefused(t, "case X of a then skip [ ] b then skip end", api.ErrForm)
	checkRefused(t, "X = Y = < Z", api.ErrForm)
	checkRefused(t, "sk ip", api.ErrForm)
	checkRefused(t, "th%\nread skip end", api.ErrForm)
	checkRefused(t, "X = ~ 1", api.ErrForm)
}

// P4.5: parentheses around each expression change nothing.
func TestParenthesesOfAll(t *testing.T) {
	manyTrees(t, 8, 5000, func(m maker, x api.Syn, s string) {
		full := byForms(x, true)
		if len(full) <= api.MaxText && len(scan(t, full)) <= api.MaxTokens {
			checkRead(t, full, x)
		}
		if !isStatement(x) && len(s) < api.MaxText-8 {
			checkRead(t, "( "+s+" )", x)
			checkRead(t, "(("+s+"))", x)
		}
	})
}

// grouped is the source of operands with operators between them, with parentheses around all that the levels bind together.
func grouped(operands, operators []string) string {
	if len(operators) == 0 {
		return operands[0]
	}
	weakest := 0 // the operator that is done last: of a level the first |, or the last one else
	for i, o := range operators {
		if s, w := strength(o), strength(operators[weakest]); s < w || s == w && s > 0 {
			weakest = i
		}
	}
	left := grouped(operands[:weakest+1], operators[:weakest])
	right := grouped(operands[weakest+1:], operators[weakest+1:])
	return "(" + left + operators[weakest] + right + ")"
}

// neighbours reports whether two comparisons come one after the other, with stronger operators between them at most.
func neighbours(operators []string) bool {
	before := false
	for _, o := range operators {
		if s := strength(o); s == 1 && before {
			return true
		} else if s < 2 {
			before = s == 1
		}
	}
	return false
}

// P4.6: operators in a row mean what they mean with the parentheses of their levels.
func TestLevels(t *testing.T) {
	m := maker{rand.New(rand.NewSource(9))}
	read, refused := 0, 0
	for range 20000 {
		operands, between := []string{m.loose(0)}, []string{}
		for range 1 + m.Intn(6) {
			operands = append(operands, m.loose(0))
			between = append(between, m.pick("|", "|", "<", "==", ">=", "+", "-", "+", "*", "*"))
		}
		source := operands[0]
		for i, o := range between {
			source += " " + o + " " + operands[i+1]
		}
		if neighbours(between) {
			checkExprRefused(t, source, api.ErrForm)
			refused++
			continue
		}
		want, e := parse.Expr(grouped(operands, between))
		if e != api.OK {
			t.Fatalf("Expr of %q, grouped: %d", source, e)
		}
		checkRead(t, source, want)
		read++
	}
	if read < 5000 || refused < 2000 {
		t.Errorf("only %d sources that can be read and %d that cannot", read, refused)
	}
}
