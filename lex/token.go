package lex

import (
	"strconv"
	"strings"

	"leatwork/api"
)

// next returns the token with which s begins, and how many bytes of s it takes. If s begins with none, it returns what is no token.
func next(s string) (api.Token, int) {
	switch kindOf(s[0]) {
	case digit:
		n := run(s, digit)
		return api.Token{Kind: api.TokInt, Text: s[:n]}, n
	case tilde:
		n := 1 + run(s[1:], digit)
		return api.Token{Kind: api.TokInt, Text: "-" + s[1:n]}, n
	case small:
		return smallWord(s)
	case capital:
		n := wordRun(s)
		return api.Token{Kind: api.TokVar, Text: s[:n]}, n
	case quote:
		return quoted(s)
	}
	n := symbolLength(s)
	return api.Token{Kind: api.TokSymbol, Text: s[:n]}, n
}

// smallWord returns the atom without quotes, or the keyword, with which s begins.
func smallWord(s string) (api.Token, int) {
	n := wordRun(s)
	kind := api.TokAtom
	if Keyword(s[:n]) {
		kind = api.TokKeyword
	}
	return api.Token{Kind: kind, Text: s[:n]}, n
}

// quoted returns the atom in quotes with which s begins. No atom has a quote in itself, so the next one ends it.
func quoted(s string) (api.Token, int) {
	text, _, ended := strings.Cut(s[1:], "'")
	if !ended {
		return api.Token{}, 0
	}
	return api.Token{Kind: api.TokAtom, Text: text}, len(text) + len("''")
}

// symbolLength returns how many bytes the symbol has with which s begins, or 1 if there is none.
func symbolLength(s string) int {
	if len(s) > 1 && isSymbol(s[:2]) {
		return 2
	}
	return 1
}

// isToken reports whether a token can come from a source. Its place is not looked at.
func isToken(t api.Token) bool {
	switch t.Kind {
	case api.TokInt:
		return isInteger(t.Text)
	case api.TokAtom:
		return t.Text == "|" || t.Text == "#" || isWord(t.Text, small)
	case api.TokVar:
		return isWord(t.Text, capital)
	case api.TokKeyword:
		return Keyword(t.Text)
	case api.TokSymbol:
		return isSymbol(t.Text)
	}
	return false
}

func isInteger(s string) bool {
	n, err := strconv.Atoi(s)
	// Atoi takes more than what a token's text may be, such as leading zeros and a plus sign.
	return err == nil && -api.MaxInt <= n && n <= api.MaxInt && strconv.Itoa(n) == s
}

// isWord reports whether s is a word whose first byte is of some kind.
func isWord(s string, first byteKind) bool {
	return 1 <= len(s) && len(s) <= api.MaxAtom && kindOf(s[0]) == first && wordRun(s) == len(s)
}

func isSymbol(s string) bool {
	switch s {
	case "{", "}", "(", ")", "[", "]", "[]", "|", "$", "=", "==", "\\=", "<", "=<", ">", ">=", "+", "-", "*", "_":
		return true
	}
	return false
}

// source returns the bytes of a token as a source has them.
func source(t api.Token) string {
	switch t.Kind {
	case api.TokInt:
		if digits, below := strings.CutPrefix(t.Text, "-"); below {
			return "~" + digits
		}
	case api.TokAtom:
		if needsQuotes(t.Text) {
			return "'" + t.Text + "'"
		}
	}
	return t.Text
}

// needsQuotes reports whether an atom would be read as something else without quotes.
func needsQuotes(atom string) bool {
	return Keyword(atom) || atom == "|" || atom == "#"
}
