package parse

import (
	"slices"

	"leatwork/api"
)

// malformed is the panic that ends the reading of a malformed source.
const malformed = "malformed"

// reader reads tokens. Its methods panic where a token comes next that cannot do so.
type reader struct {
	tokens []api.Token
	at     int
}

// node returns a syntax tree of a kind that has only kids.
func node(kind string, kids ...api.Syn) api.Syn {
	return api.Syn{Kind: kind, Kids: kids}
}

// peek returns the token that comes next, or none at the end.
func (r *reader) peek() api.Token {
	if r.at < len(r.tokens) {
		return r.tokens[r.at]
	}
	return api.Token{}
}

// take passes over the token that comes next, and returns it.
func (r *reader) take() api.Token {
	if r.at == len(r.tokens) {
		panic(malformed)
	}
	r.at++
	return r.tokens[r.at-1]
}

// sees reports whether one of some keywords and symbols comes next.
func (r *reader) sees(words ...string) bool {
	t := r.peek()
	return isWord(t) && slices.Contains(words, t.Text)
}

// isWord reports whether a token is a keyword or a symbol: an atom can have the same text.
func isWord(t api.Token) bool {
	return t.Kind == api.TokKeyword || t.Kind == api.TokSymbol
}

// skip passes over a keyword or a symbol, if it comes next, and reports whether it does.
func (r *reader) skip(word string) bool {
	if !r.sees(word) {
		return false
	}
	r.at++
	return true
}

// want passes over a keyword or a symbol, which must come next.
func (r *reader) want(word string) {
	if !r.skip(word) {
		panic(malformed)
	}
}

// name reads an identifier.
func (r *reader) name() string {
	t := r.take()
	if t.Kind != api.TokVar {
		panic(malformed)
	}
	return t.Text
}

// variables reads variables up to a keyword, one or more.
func (r *reader) variables(end string) []api.Syn {
	var out []api.Syn
	for len(out) == 0 || !r.skip(end) {
		out = append(out, variable(r.name()))
	}
	return out
}

func variable(name string) api.Syn {
	return api.Syn{Kind: "var", Text: name}
}

// expressions reads expressions up to a symbol, one or more.
func (r *reader) expressions(end string) []api.Syn {
	var out []api.Syn
	for len(out) == 0 || !r.skip(end) {
		out = append(out, r.expression())
	}
	return out
}

// procedure reads the parameters and the body of a procedure, from behind its name up to its end.
func (r *reader) procedure(body func(*reader) api.Syn) []api.Syn {
	var out []api.Syn
	for !r.skip("}") {
		out = append(out, r.parameter())
	}
	out = append(out, body(r))
	r.want("end")
	return out
}

func (r *reader) parameter() api.Syn {
	if r.skip("_") {
		return node("any")
	}
	return variable(r.name())
}
