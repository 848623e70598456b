package lex

import (
	"slices"
	"strings"
)

// byteKind is what a byte can be in a source.
type byteKind int

const (
	other byteKind = iota // a byte of a symbol, or of no token
	space
	digit
	small   // a letter a to z
	capital // a letter A to Z
	underline
	tilde
	quote
)

func kindOf(c byte) byteKind {
	switch {
	case c == ' ' || c == '\n' || c == '\t':
		return space
	case '0' <= c && c <= '9':
		return digit
	case 'a' <= c && c <= 'z':
		return small
	case 'A' <= c && c <= 'Z':
		return capital
	case c == '_':
		return underline
	case c == '~':
		return tilde
	case c == '\'':
		return quote
	}
	return other
}

// run returns how many bytes at the beginning of s are of the kinds.
func run(s string, kinds ...byteKind) int {
	for i := range len(s) {
		if !slices.Contains(kinds, kindOf(s[i])) {
			return i
		}
	}
	return len(s)
}

// wordRun is the run of the bytes that an atom or an identifier may have behind its first one.
func wordRun(s string) int {
	return run(s, small, capital, digit, underline)
}

// gap returns how many bytes at the beginning of s are between tokens.
func gap(s string) int {
	at := run(s, space)
	for strings.HasPrefix(s[at:], "%") {
		at += remark(s[at:])
		at += run(s[at:], space)
	}
	return at
}

// remark returns how many bytes the remark has with which s begins.
func remark(s string) int {
	if end := strings.IndexByte(s, '\n'); end >= 0 {
		return end
	}
	return len(s)
}
