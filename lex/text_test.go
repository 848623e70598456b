package lex_test

import (
	"slices"
	"strings"
	"testing"

	"leatwork/api"
	"leatwork/lex"
)

func TestTextExamples(t *testing.T) {
	checkText(t, scan(t, "X=f(Y ~3)% ok"), "X = f ( Y ~3 )", api.OK)
	checkText(t, scan(t, "[]"), "[]", api.OK)
	checkText(t, scan(t, "[ ]"), "[ ]", api.OK)
	checkText(t, scan(t, "=<"), "=<", api.OK)
	checkText(t, scan(t, "= <"), "= <", api.OK)
	checkText(t, scan(t, "a|b"), "a | b", api.OK)
	checkText(t, scan(t, "'if' if"), "'if' if", api.OK)
	checkText(t, scan(t, "'a' '|' '#'"), "a '|' '#'", api.OK)
	checkText(t, nil, "", api.OK)
	checkText(t, []api.Token{}, "", api.OK)
}

func TestTextOfOneToken(t *testing.T) {
	for _, s := range symbols {
		checkText(t, list(symbol(s)), s, api.OK)
	}
	for _, s := range keywords {
		checkText(t, list(keyword(s)), s, api.OK)
		checkText(t, list(atom(s)), "'"+s+"'", api.OK)
		checkText(t, list(atom(s+"_")), s+"_", api.OK)
	}
	for _, s := range []string{"a", "z", "aZ_9", "nil", "abcdefghijklmnop"} {
		checkText(t, list(atom(s)), s, api.OK)
	}
	checkText(t, list(atom("|")), "'|'", api.OK)
	checkText(t, list(atom("#")), "'#'", api.OK)
	for _, s := range []string{"A", "Z", "Az_9", "If", "Abcdefghijklmnop"} {
		checkText(t, list(identifier(s)), s, api.OK)
	}
	for _, s := range []string{"0", "1", "10", "1099511627776"} {
		checkText(t, list(integer(s)), s, api.OK)
	}
	for _, s := range []string{"1", "10", "1099511627776"} {
		checkText(t, list(integer("-"+s)), "~"+s, api.OK)
	}
}

func TestTextOfNoToken(t *testing.T) {
	good := list(integer("1"), atom("a"), identifier("X"), keyword("if"), symbol("="))
	texts := []string{
		"", " ", "a ", " a", "X ", " X", "1 ", "if ", "= ", "a b", "a\n", "X\x00", "a-b", "é", "aé", "Xé", "\xff", "a\xff", "\x00", "'a'", "'", "''", "'if'", "%", "a%", "1%",
		"~1", "~0", "-0", "--1", "+1", "-", "~", "+0", "01", "-01", "00", "1_0", "0x1", "1.0", "1e3", "1099511627777", "-1099511627777", "9223372036854775807", "-9223372036854775808", "99999999999999999999999", strings.Repeat("9", 5000),
		"abcdefghijklmnopq", "Abcdefghijklmnopq", "_a", "_X", "__", "1a", "||", "##", "|#", "#", "|", "if", "end", "a", "X", "1", "-1", "0", "[]", "_",
		"\\", "=>", "<=", "!", ",", "[ ]", "]]", "===", "<>", "~=", "@", "Skip", "IF", "skipp", "loca",
	}
	for kind, valid := range map[int][]string{
		api.TokInt:     {"1", "-1", "0"},
		api.TokAtom:    {"a", "if", "end", "|", "#", "skipp", "loca"},
		api.TokVar:     {"X", "Skip", "IF"},
		api.TokKeyword: {"if", "end"},
		api.TokSymbol:  {"[]", "_", "|", "-", "+", "*", "="},
		0:              nil, 6: nil, -1: nil, 99: nil, -1 << 63: nil, 1<<63 - 1: nil,
	} {
		for _, s := range texts {
			x, want := api.Token{Kind: kind, Text: s}, api.ErrForm
			if slices.Contains(valid, s) {
				want = api.OK
			}
			for i := range len(good) + 1 {
				tokens := slices.Insert(slices.Clone(good), i, x)
				if got, e := lex.Text(tokens); e != want || (e == api.OK) != (got != "") {
					t.Errorf("Text(%v) = %q, %d, want %d", tokens, got, e, want)
				}
			}
		}
	}
}

// The places of tokens are not looked at.
func TestTextPlaces(t *testing.T) {
	for _, n := range []int{-1, 0, 7, 4001, -1 << 63, 1<<63 - 1} {
		checkText(t, []api.Token{at(n, atom("a")), at(3, symbol("=")), at(n, integer("-4"))}, "a = ~4", api.OK)
	}
}

func TestTextCount(t *testing.T) {
	for _, x := range []api.Token{atom("a"), integer("5"), integer("-5"), symbol("[]"), identifier("X"), keyword("if")} {
		tokens := slices.Repeat(list(x), api.MaxTokens)
		one := text(t, list(x))
		checkText(t, tokens, strings.TrimSuffix(strings.Repeat(one+" ", api.MaxTokens), " "), api.OK)
		checkText(t, append(tokens, x), "", api.ErrLong)
		checkText(t, append(tokens, api.Token{Kind: api.TokVar, Text: "x"}), "", api.ErrForm)
		checkText(t, append([]api.Token{{}}, tokens...), "", api.ErrForm)
	}
	checkText(t, slices.Repeat(list(symbol("{")), 5000), "", api.ErrLong)
}

func TestTextLength(t *testing.T) {
	words := slices.Repeat(list(atom("abcdefghijklmnop")), 235) // 3995 bytes with a blank behind the last one
	for last, want := range map[string]api.Errno{"abcd": api.OK, "abcde": api.OK, "abcdef": api.ErrLong} {
		tokens := append(slices.Clone(words), atom(last))
		s, e := lex.Text(tokens)
		if e != want || e == api.OK && len(s) != 3995+len(last) || e != api.OK && s != "" {
			t.Errorf("Text with the last atom %s: %d bytes, %d", last, len(s), e)
		}
	}
	for _, x := range []struct { // quotes and the sign count
		token api.Token
		want  api.Errno
	}{
		{atom("end"), api.OK}, {atom("else"), api.ErrLong}, {atom("|"), api.OK}, {keyword("catch"), api.OK}, {keyword("choose"), api.ErrLong}, {integer("-1234"), api.OK}, {integer("12345"), api.OK}, {integer("-12345"), api.ErrLong}, {identifier("Abcde"), api.OK}, {identifier("Abcdef"), api.ErrLong},
	} {
		tokens := append(slices.Clone(words), x.token)
		if s, e := lex.Text(tokens); e != x.want || (e == api.OK) != (s != "") {
			t.Errorf("Text with %v at the end: %d bytes, %d", x.token, len(s), e)
		}
		checkText(t, append(tokens, api.Token{Kind: api.TokAtom}), "", api.ErrForm) // ErrForm comes first
	}
}
