package lex_test

import (
	"math/rand"
	"regexp"
	"strconv"
	"strings"
	"testing"

	"leatwork/api"
	"leatwork/lex"
)

var (
	keywords = strings.Fields("skip local in end if then else case of proc fun thread try catch raise lazy choose")
	symbols  = strings.Fields(`{ } ( ) [ ] [] | $ = == \= < =< > >= + - * _`)
	spaces   = []string{" ", "\n", "\t"}
)

func integer(s string) api.Token { return api.Token{Kind: api.TokInt, Text: s} }

func atom(s string) api.Token { return api.Token{Kind: api.TokAtom, Text: s} }

func identifier(s string) api.Token { return api.Token{Kind: api.TokVar, Text: s} }

func keyword(s string) api.Token { return api.Token{Kind: api.TokKeyword, Text: s} }

func symbol(s string) api.Token { return api.Token{Kind: api.TokSymbol, Text: s} }

// at is a token that begins behind n bytes.
func at(n int, t api.Token) api.Token {
	t.At = n
	return t
}

// list is a list of tokens, or nil, without their places.
func list(tokens ...api.Token) []api.Token {
	var out []api.Token
	for _, t := range tokens {
		out = append(out, at(0, t))
	}
	return out
}

func scan(t testing.TB, s string) []api.Token {
	t.Helper()
	tokens, n, e := lex.Scan(s)
	if e != api.OK || n != 0 {
		t.Fatalf("Scan(%.80q) = %v, %d, %d", s, tokens, n, e)
	}
	return tokens
}

func text(t testing.TB, tokens []api.Token) string {
	t.Helper()
	s, e := lex.Text(tokens)
	if e != api.OK {
		t.Fatalf("Text(%v) = %q, %d", tokens, s, e)
	}
	return s
}

func checkRefused(t testing.TB, s string, place int, want api.Errno) {
	t.Helper()
	if tokens, n, e := lex.Scan(s); e != want || n != place || len(tokens) > 0 {
		t.Errorf("Scan(%.80q) = %v, %d, %d, want %d, %d", s, tokens, n, e, place, want)
	}
}

func checkText(t testing.TB, tokens []api.Token, want string, wantError api.Errno) {
	t.Helper()
	if s, e := lex.Text(tokens); e != wantError || s != want {
		t.Errorf("Text(%v) = %q, %d, want %q, %d", tokens, s, e, want, wantError)
	}
}

// The model: what may stand between tokens, what looks like a token (the longest that does so is one, or is malformed), and what is one.
var (
	modelGap = regexp.MustCompile(`^(?:[ \n\t]|%[^\n]*)*`)

	modelLooks = []*regexp.Regexp{
		api.TokInt:    regexp.MustCompile(`^(?:~[0-9]*|[0-9]+)`),
		api.TokAtom:   regexp.MustCompile(`^(?:[a-z][a-zA-Z0-9_]*|'(?s:[^'])*')`),
		api.TokVar:    regexp.MustCompile(`^[A-Z][a-zA-Z0-9_]*`),
		api.TokSymbol: regexp.MustCompile(`^(?:\[\]|==|\\=|=<|>=|[][{}()|$=<>+*_-])`),
	}

	modelIs = []*regexp.Regexp{
		api.TokInt:    regexp.MustCompile(`^(?:0|~?[1-9][0-9]*)$`),
		api.TokAtom:   regexp.MustCompile(`^(?:[a-z][a-zA-Z0-9_]{0,15}|'[a-z][a-zA-Z0-9_]{0,15}'|'[|#]')$`),
		api.TokVar:    regexp.MustCompile(`^[A-Z][a-zA-Z0-9_]{0,15}$`),
		api.TokSymbol: regexp.MustCompile(`^`),
	}
)

// model is Scan, by regular expressions and for sources that are not too long: the tokens, or where there is none.
func model(s string) ([]api.Token, int, bool) {
	var out []api.Token
	n := len(modelGap.FindString(s))
	for n < len(s) {
		token, length := modelToken(s[n:])
		if length == 0 {
			return nil, n, false
		}
		out = append(out, at(n, token))
		n += length
		n += len(modelGap.FindString(s[n:]))
	}
	return out, 0, true
}

func modelToken(s string) (api.Token, int) {
	for kind, looks := range modelLooks {
		if looks == nil {
			continue
		}
		part := looks.FindString(s)
		if part == "" || !modelIs[kind].MatchString(part) {
			continue
		}
		switch {
		case kind == api.TokInt:
			digits := strings.TrimPrefix(part, "~")
			if v, err := strconv.ParseInt(digits, 10, 64); err != nil || v > api.MaxInt {
				return api.Token{}, 0
			}
			return integer(strings.Replace(part, "~", "-", 1)), len(part)
		case kind == api.TokAtom && strings.Contains(" "+strings.Join(keywords, " ")+" ", " "+part+" "):
			return keyword(part), len(part)
		}
		return api.Token{Kind: kind, Text: strings.Trim(part, "'")}, len(part)
	}
	return api.Token{}, 0
}

// word is a random letter of the first ones, and then others.
func word(r *rand.Rand, first string) string {
	const others = "abcdefghijklmnopqrstuvwxyzABCDEFGHIJKLMNOPQRSTUVWXYZ0123456789_"
	out := []byte{first[r.Intn(len(first))]}
	for range r.Intn(api.MaxAtom) {
		out = append(out, others[r.Intn(len(others))])
	}
	return string(out)
}

// randomToken is a valid token, of each kind.
func randomToken(r *rand.Rand) api.Token {
	const letters = "abcdefghijklmnopqrstuvwxyz"
	switch r.Intn(7) {
	case 0:
		return integer(strconv.Itoa(r.Intn(2*api.MaxInt+1) - api.MaxInt))
	case 1:
		return integer(strconv.Itoa(r.Intn(5) - 2))
	case 2:
		return identifier(word(r, strings.ToUpper(letters)))
	case 3:
		return keyword(keywords[r.Intn(len(keywords))])
	case 4:
		return symbol(symbols[r.Intn(len(symbols))])
	case 5:
		return atom([]string{"|", "#", keywords[r.Intn(len(keywords))]}[r.Intn(3)])
	}
	for {
		if a := word(r, letters); !lex.Keyword(a) {
			return atom(a)
		}
	}
}

func randomTokens(r *rand.Rand, count int) []api.Token {
	var out []api.Token
	for range count {
		out = append(out, randomToken(r))
	}
	return out
}

// randomGap is something between tokens that is not empty.
func randomGap(r *rand.Rand) string {
	out := spaces[r.Intn(3)]
	for r.Intn(2) == 0 {
		out += []string{" ", "\n", "\t", "%\n", "% 'a #\\ 01 %%\n", "%\x00\xff\r\n"}[r.Intn(6)]
	}
	return out
}

// randomSource is a source of pieces that are tokens, parts of them, or none.
func randomSource(r *rand.Rand, most int) string {
	pieces := []string{"a", "b9", "if", "then", "X", "Y_", "_", "0", "1", "20", "~", "'", "'", "%", "\n", " ", "\t", "[", "]", "=", "=", "<", ">", "\\", "|", "{", "-", "'a'", "'#'", "~7", "[]", "\\=", " ", "\n"}
	var out string
	for range r.Intn(most + 1) {
		out += pieces[r.Intn(len(pieces))]
		if r.Intn(40) == 0 {
			out += string([]byte{byte(r.Intn(256))})
		}
	}
	return out
}
