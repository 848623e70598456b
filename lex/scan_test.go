package lex_test

import (
	"slices"
	"strings"
	"testing"

	"leatwork/api"
	"leatwork/lex"
)

func checkScan(t *testing.T, s string, want ...api.Token) {
	t.Helper()
	if got, n, e := lex.Scan(s); e != api.OK || n != 0 || !slices.Equal(got, want) {
		t.Errorf("Scan(%q) = %v, %d, %d, want %v", s, got, n, e, want)
	}
}

func TestScanExamples(t *testing.T) {
	checkScan(t, "X=f(Y ~3)% ok", at(0, identifier("X")), at(1, symbol("=")), at(2, atom("f")), at(3, symbol("(")), at(4, identifier("Y")), at(6, integer("-3")), at(8, symbol(")")))
	checkScan(t, "[]", symbol("[]"))
	checkScan(t, "[ ]", symbol("["), at(2, symbol("]")))
	checkScan(t, "=<", symbol("=<"))
	checkScan(t, "= <", symbol("="), at(2, symbol("<")))
	checkScan(t, "a|b", atom("a"), at(1, symbol("|")), at(2, atom("b")))
	checkScan(t, "'if'", atom("if"))
	checkScan(t, "if", keyword("if"))
	checkRefused(t, "01", 0, api.ErrForm)
	checkRefused(t, `x\y`, 1, api.ErrForm)
}

func TestScanNothing(t *testing.T) {
	for _, s := range []string{"", " ", "\n", "\t", " \n\t ", "%", "%a", "%\n", "% 'a\n%\n  %#"} {
		checkScan(t, s)
	}
}

// followers is what may stand directly behind a token that does not go on with it.
var followers = []string{"", " ", "\n", "\t", "%", "{", "}", "(", ")", "[", "|", "$", "+", "-", "*", "'a'", "~1"}

func TestScanSymbols(t *testing.T) {
	for _, s := range symbols {
		checkScan(t, s, symbol(s))
		for _, behind := range append([]string{"a", "X", "0", "_", "if", "<", ">", "\\=", "]"}, followers...) {
			if strings.Contains(" "+strings.Join(symbols, " ")+" ", " "+s+behind+" ") {
				continue
			}
			got, rest := scan(t, s+behind), scan(t, behind)
			if len(got) != 1+len(rest) || got[0] != symbol(s) || !slices.Equal(list(got[1:]...), list(rest...)) {
				t.Errorf("Scan(%q) = %v", s+behind, got)
			}
		}
	}
}

func TestScanLongestSymbols(t *testing.T) {
	for s, want := range map[string]string{
		"===": "== =", "====": "== ==", "=<=": "=< =", "=>": "= >", "<=": "< =", ">==": ">= =", ">=<": ">= <", "=<<": "=< <", "==<": "== <", "=\\=": "= \\=",
		"\\==": "\\= =", "\\=<": "\\= <", "<>": "< >", ">>=": "> >=", "[]]": "[] ]", "[[]": "[ []", "[[]]": "[ [] ]", "][": "] [", "[][]": "[] []", "__": "_ _", "--": "- -", "||": "| |", "{}": "{ }", "()": "( )",
	} {
		var texts []string
		for _, x := range scan(t, s) {
			if x.Kind != api.TokSymbol {
				t.Errorf("Scan(%q): %v", s, x)
			}
			texts = append(texts, x.Text)
		}
		if got := strings.Join(texts, " "); got != want {
			t.Errorf("Scan(%q) = %s, want %s", s, got, want)
		}
	}
}

func TestScanKeywords(t *testing.T) {
	if len(keywords) != 17 {
		t.Fatalf("%d keywords", len(keywords))
	}
	for _, k := range keywords {
		checkScan(t, k, keyword(k))
		for _, behind := range append([]string{"]", "=", "==", "<", ">=", "\\="}, followers...) {
			got, rest := scan(t, k+behind), scan(t, behind)
			if len(got) != 1+len(rest) || got[0] != keyword(k) || !slices.Equal(list(got[1:]...), list(rest...)) {
				t.Errorf("Scan(%q) = %v", k+behind, got)
			}
		}
		for _, behind := range []string{"a", "z", "A", "Z", "0", "9", "_", "if"} {
			checkScan(t, k+behind, atom(k+behind))
		}
		checkScan(t, k[:1]+" "+k, atom(k[:1]), at(2, keyword(k)))
		upper := strings.ToUpper(k)
		checkScan(t, upper, identifier(upper))
		checkScan(t, "_"+k, symbol("_"), at(1, keyword(k)))
		checkScan(t, "7"+k, integer("7"), at(1, keyword(k)))
	}
}

func TestKeyword(t *testing.T) {
	for _, k := range keywords {
		if !lex.Keyword(k) {
			t.Errorf("Keyword(%q) is false", k)
		}
		for _, s := range []string{k + "s", k[:len(k)-1] + "_", " " + k, k + " ", strings.ToUpper(k), strings.ToUpper(k[:1]) + k[1:], "'" + k + "'", k + "\x00"} {
			if lex.Keyword(s) {
				t.Errorf("Keyword(%q) is true", s)
			}
		}
	}
	for _, s := range []string{"", "a", "X", "true", "nil", "do", "for", "cond", "[]", "_", "1", "\xff", "skip local", strings.Repeat("skip", 2000)} {
		if lex.Keyword(s) {
			t.Errorf("Keyword(%q) is true", s)
		}
	}
}

func TestScanIntegers(t *testing.T) {
	for s, want := range map[string]string{"0": "0", "1": "1", "9": "9", "10": "10", "~1": "-1", "~10": "-10", "1234567890": "1234567890", "1099511627775": "1099511627775", "1099511627776": "1099511627776", "~1099511627776": "-1099511627776"} {
		checkScan(t, s, integer(want))
		checkScan(t, " "+s+")", at(1, integer(want)), at(1+len(s), symbol(")")))
		checkScan(t, s+"a", integer(want), at(len(s), atom("a")))
		checkScan(t, s+"X", integer(want), at(len(s), identifier("X")))
		checkScan(t, s+"_", integer(want), at(len(s), symbol("_")))
		checkScan(t, s+"if", integer(want), at(len(s), keyword("if")))
		checkScan(t, s+"~5", integer(want), at(len(s), integer("-5")))
		checkScan(t, s+"%0", integer(want))
		checkScan(t, s+"\n0", integer(want), at(len(s)+1, integer("0")))
		checkScan(t, "-"+s, symbol("-"), at(1, integer(want)))
	}
	checkScan(t, "3-4", integer("3"), at(1, symbol("-")), at(2, integer("4")))
	checkScan(t, "a~4", atom("a"), at(1, integer("-4")))
	checkScan(t, "a4", atom("a4"))
}

func TestScanMalformedIntegers(t *testing.T) {
	for _, s := range []string{
		"01", "00", "000", "007", "0123456789", "~0", "~00", "~01", "~", "~~1", "~~", "~ 1", "~\n1", "~a", "~X", "~-1", "~_", "~'a'", "~%", "~(1)",
		"1099511627777", "~1099511627777", "10995116277760", "9223372036854775807", "9223372036854775808", "18446744073709551616", "18446744073709551617", "~9223372036854775808", "~18446744073709551617", "01099511627776", "00000000000000000000001",
		strings.Repeat("9", 100), "~" + strings.Repeat("1", 3000), strings.Repeat("0", 4000), strings.Repeat("9", 4000),
	} {
		checkRefused(t, s, 0, api.ErrForm)
		if len(s) < 3000 {
			checkRefused(t, "x 5 "+s, 4, api.ErrForm)
			checkRefused(t, "% 01\n\t"+s+" #", 6, api.ErrForm)
			checkRefused(t, s+" a", 0, api.ErrForm)
			checkRefused(t, "[]"+s, 2, api.ErrForm)
		}
	}
	checkRefused(t, "1~", 1, api.ErrForm)
	checkRefused(t, "1~0", 1, api.ErrForm)
	checkRefused(t, "a 10 ~0 ~", 5, api.ErrForm)
}

func TestScanAtoms(t *testing.T) {
	for _, s := range []string{"a", "z", "aA", "zZ09_", "a_", "a__", "nil", "iff", "i", "skip_", "ends", "abcdefghijklmnop", "a_BCDEFGHIJKLMN9"} {
		checkScan(t, s, atom(s))
		checkScan(t, "\t"+s+"{", at(1, atom(s)), at(1+len(s), symbol("{")))
		checkScan(t, s+"'b'", atom(s), at(len(s), atom("b")))
		checkScan(t, s+"~2", atom(s), at(len(s), integer("-2")))
		checkScan(t, s+"%x\nb", atom(s), at(len(s)+3, atom("b")))
		checkScan(t, "'"+s+"'", atom(s))
	}
	for _, s := range []string{"abcdefghijklmnopq", "a_BCDEFGHIJKLMN90", "a" + strings.Repeat("_", 16), "skiplocalinendif0", strings.Repeat("a", 4000)} {
		checkRefused(t, s, 0, api.ErrForm)
		if len(s) < 20 {
			checkRefused(t, "ab 'if' "+s+" #", 8, api.ErrForm)
			checkRefused(t, "abc%\n'"+s+"'", 5, api.ErrForm)
		}
	}
}

func TestScanIdentifiers(t *testing.T) {
	for _, s := range []string{"A", "Z", "Aa", "Zz09_", "X_", "X__", "If", "IF", "Abcdefghijklmnop", "A_bcdefghijklmN9"} {
		checkScan(t, s, identifier(s))
		checkScan(t, "_"+s+"[]", symbol("_"), at(1, identifier(s)), at(1+len(s), symbol("[]")))
		checkScan(t, s+"'b'", identifier(s), at(len(s), atom("b")))
		checkScan(t, s+"~2", identifier(s), at(len(s), integer("-2")))
		checkScan(t, s+"%x", identifier(s))
		checkRefused(t, "'"+s+"'", 0, api.ErrForm)
	}
	for _, s := range []string{"Abcdefghijklmnopq", "A_bcdefghijklmN90", "A" + strings.Repeat("_", 16), strings.Repeat("Z", 4000)} {
		checkRefused(t, s, 0, api.ErrForm)
		if len(s) < 20 {
			checkRefused(t, "x("+s+")", 2, api.ErrForm)
		}
	}
	checkScan(t, "_x", symbol("_"), at(1, atom("x")))
	checkScan(t, "_0", symbol("_"), at(1, integer("0")))
	checkScan(t, "_abcdefghijklmnop", symbol("_"), at(1, atom("abcdefghijklmnop")))
	var lines []api.Token // more of them than an identifier may have
	for i := range 20 {
		lines = append(lines, at(i, symbol("_")))
	}
	checkScan(t, strings.Repeat("_", 20), lines...)
}

func TestScanQuotes(t *testing.T) {
	for _, s := range append([]string{"|", "#", "a", "aB_9", "nil", "abcdefghijklmnop"}, keywords...) {
		checkScan(t, "'"+s+"'", atom(s))
		checkScan(t, "  '"+s+"'x", at(2, atom(s)), at(4+len(s), atom("x")))
		checkScan(t, "'"+s+"''"+s+"'", atom(s), at(2+len(s), atom(s)))
		checkScan(t, "x'"+s+"'%'", atom("x"), at(1, atom(s)))
	}
	for _, s := range []string{
		"''", "'''", "''''", "''a", "'A'", "'Ab'", "'_'", "'_a'", "'1'", "'~1'", "'-1'", "'[]'", "'='", "'||'", "'##'", "'|#'", "'|a'", "'a|'", "'#a'", "'a#'", "' a'", "'a '", "' '", "'a b'", "'a\n'", "'\na'", "'a%'", "'%'", "'%\na'",
		"'a-b'", "'é'", "'a\x00'", "'\x00'", "'\xff'", "'a\x7f'", "'\\''", "'abcdefghijklmnopq'", "'" + strings.Repeat("a", 3998) + "'",
		"'", "'a", "'|", "'#", "'if", "'a\n", "'a b c", "'a\"", "'a % '", "'a`",
	} {
		checkRefused(t, s, 0, api.ErrForm)
		if len(s) < 20 {
			checkRefused(t, "[] 12\n"+s, 6, api.ErrForm)
			checkRefused(t, "'b'"+s, 3, api.ErrForm)
			checkRefused(t, "if"+s, 2, api.ErrForm)
		}
	}
	checkRefused(t, "'a'b'", 4, api.ErrForm)
	checkRefused(t, "'a''", 3, api.ErrForm)
	checkRefused(t, "'a'#", 3, api.ErrForm)
}

func TestScanRemarks(t *testing.T) {
	for _, inside := range []string{"", " ", "%", "%%", "a", "'", "'a", "#", "\\", "01", "~", "\r", "\x00", "\x7f", "\xff\xfe", "é", "\t", "abcdefghijklmnopqr", "]"} {
		checkScan(t, "%"+inside)
		checkScan(t, "a%"+inside, atom("a"))
		checkScan(t, "a %"+inside+"\n", atom("a"))
		checkScan(t, "%"+inside+"\nb", at(2+len(inside), atom("b")))
		checkScan(t, "a%"+inside+"\nb", atom("a"), at(3+len(inside), atom("b")))
		checkScan(t, "=%"+inside+"\n%"+inside+"\n =", symbol("="), at(6+2*len(inside), symbol("=")))
	}
	checkScan(t, "[%\n]", symbol("["), at(3, symbol("]")))
	checkScan(t, "ab%\ncd", atom("ab"), at(4, atom("cd")))
	checkRefused(t, "% a\n#", 4, api.ErrForm)
	checkRefused(t, "~%\n1", 0, api.ErrForm)
	checkRefused(t, "%\r#\n#", 4, api.ErrForm)
}

func TestScanSpaces(t *testing.T) {
	for _, s := range spaces {
		checkScan(t, s+"a"+s+s+"b"+s, at(1, atom("a")), at(4, atom("b")))
		checkScan(t, "1"+s+"2", integer("1"), at(2, integer("2")))
		checkScan(t, "X"+s+"Y", identifier("X"), at(2, identifier("Y")))
		checkScan(t, "="+s+"=", symbol("="), at(2, symbol("=")))
		checkScan(t, "th"+s+"en", atom("th"), at(3, atom("en")))
		checkRefused(t, "\\"+s+"=", 0, api.ErrForm)
	}
}

// The bytes with which no token begins, and which are not between tokens.
func TestScanOtherBytes(t *testing.T) {
	var bad []byte
	for c := range 256 {
		b := byte(c)
		if c <= ' ' && c != ' ' && c != '\n' && c != '\t' || c > '~' || strings.IndexByte("!\"#&,./:;?@\\^`", b) >= 0 {
			bad = append(bad, b)
		}
	}
	for c := range 256 {
		s := string([]byte{byte(c)})
		if !slices.Contains(bad, byte(c)) {
			if s != "'" && s != "~" {
				scan(t, s)
			}
			continue
		}
		checkRefused(t, s, 0, api.ErrForm)
		checkRefused(t, s+"a", 0, api.ErrForm)
		checkRefused(t, "a"+s, 1, api.ErrForm)
		checkRefused(t, "ab"+s+"cd", 2, api.ErrForm)
		checkRefused(t, "A"+s, 1, api.ErrForm)
		checkRefused(t, "if"+s, 2, api.ErrForm)
		checkRefused(t, "12"+s+"3", 2, api.ErrForm)
		checkRefused(t, "\n\t "+s, 3, api.ErrForm)
		checkRefused(t, "'"+s, 0, api.ErrForm)
		if s != "#" {
			checkRefused(t, "'"+s+"'", 0, api.ErrForm)
			checkRefused(t, "'a"+s+"'", 0, api.ErrForm)
		}
	}
	checkRefused(t, "\ufeffa", 0, api.ErrForm)
	checkRefused(t, "a\u00a0b", 1, api.ErrForm)
	checkRefused(t, "aé", 1, api.ErrForm)
	checkRefused(t, "x\\", 1, api.ErrForm)
	checkRefused(t, "x\\\\=", 1, api.ErrForm)
}

func TestScanLength(t *testing.T) {
	for _, piece := range []string{" ", "\n", "%", "%é\n", "% '", " \t"} {
		s := strings.Repeat(piece, api.MaxText)[:api.MaxText]
		checkScan(t, s)
		checkRefused(t, s+" ", 0, api.ErrLong)
		checkRefused(t, s+"\x00", 0, api.ErrLong)
	}
	s := strings.Repeat(" ", api.MaxText-2)
	checkScan(t, s+"ab", at(api.MaxText-2, atom("ab")))
	checkScan(t, "ab"+s, atom("ab"))
	checkRefused(t, s+"abc", 0, api.ErrLong)
	checkRefused(t, s+"a#", api.MaxText-1, api.ErrForm)
	full := strings.Repeat("a", 16) + strings.Repeat(" 'bcdefghijklmnop'", 221) + " abcde"
	if got := scan(t, full); len(full) != api.MaxText || len(got) != 223 || got[222] != at(api.MaxText-5, atom("abcde")) {
		t.Errorf("Scan of %d bytes: %d tokens", len(full), len(got))
	}
	checkRefused(t, full+"f", 0, api.ErrLong)
}

func TestScanCount(t *testing.T) {
	for _, piece := range []string{"a ", "[]", "_", "{", "'a'", "~1 ", "1+", "if ", "=\n", "%\n|", "X\t", "\\="} {
		per := len(scan(t, piece))
		s := strings.Repeat(piece, api.MaxTokens/per)
		if got := scan(t, s); len(got) != api.MaxTokens {
			t.Errorf("Scan of %q, many times: %d tokens", piece, len(got))
		}
		if got := scan(t, s+" % a #\n"); len(got) != api.MaxTokens {
			t.Errorf("Scan of %q, many times, and a remark: %d tokens", piece, len(got))
		}
		for _, one := range []string{"}", "a", "'if'", "local", "X", "5", "\\=", "_"} {
			checkRefused(t, s+" "+one, 0, api.ErrLong)
			checkRefused(t, s+" "+one+" #", 0, api.ErrLong)
		}
	}
	checkRefused(t, strings.Repeat("[]", 2000), 0, api.ErrLong)
	checkRefused(t, strings.Repeat("(", api.MaxText), 0, api.ErrLong)
}

// Too long comes before malformed; what is malformed is no token, and ends them.
func TestScanErrorOrder(t *testing.T) {
	checkRefused(t, "#"+strings.Repeat(" ", api.MaxText), 0, api.ErrLong)
	checkRefused(t, strings.Repeat("#", api.MaxText+1), 0, api.ErrLong)
	checkRefused(t, "01 "+strings.Repeat("(", api.MaxText), 0, api.ErrLong)
	checkRefused(t, strings.Repeat("0", api.MaxText+1), 0, api.ErrLong)
	checkRefused(t, strings.Repeat("'", 100000), 0, api.ErrLong)
	full := strings.Repeat("(", api.MaxTokens)
	for _, s := range []string{"#", "01", "~0", "~", "''", "'A'", "'a", "\\", "\xff", "abcdefghijklmnopq", "Abcdefghijklmnopq", "1099511627777"} {
		checkRefused(t, full+s, api.MaxTokens, api.ErrForm)
		checkRefused(t, full+")"+s, 0, api.ErrLong)
		checkRefused(t, full[1:]+s, api.MaxTokens-1, api.ErrForm)
		checkRefused(t, full[1:]+s+" "+full, api.MaxTokens-1, api.ErrForm)
		checkRefused(t, s+" "+full, 0, api.ErrForm)
	}
}
