package parse

import (
	"slices"
	"strconv"

	"leatwork/api"
	"leatwork/lex"
)

// item is a token that is written; if it is an atom as an expression, and not a label, it may need parentheses.
type item struct {
	api.Token
	isAtom bool
}

// writer collects the tokens of valid syntax trees.
type writer struct {
	items []item
}

// add adds a token, but not endlessly many: beyond the limit it does not count which ones they are.
func (w *writer) add(kind int, text string, isAtom bool) {
	if len(w.items) <= api.MaxTokens {
		w.items = append(w.items, item{api.Token{Kind: kind, Text: text}, isAtom})
	}
}

// put writes parts: keywords and symbols, which are strings, syntax trees, and slices of them.
func (w *writer) put(parts ...any) {
	for _, part := range parts {
		switch p := part.(type) {
		case string:
			w.word(p)
		case api.Syn:
			w.tree(p)
		case []api.Syn:
			w.between("", p)
		}
	}
}

func (w *writer) word(text string) {
	kind := api.TokSymbol
	if lex.Keyword(text) {
		kind = api.TokKeyword
	}
	w.add(kind, text, false)
}

// between writes syntax trees with a symbol between them, or with none if it is empty.
func (w *writer) between(symbol string, xs []api.Syn) {
	for i, x := range xs {
		if i > 0 && symbol != "" {
			w.word(symbol)
		}
		w.tree(x)
	}
}

// tree writes a valid syntax tree.
func (w *writer) tree(x api.Syn) {
	kids, last := x.Kids, len(x.Kids)-1
	switch x.Kind {
	case "skip":
		w.put("skip")
	case "seq":
		w.put(kids)
	case "local":
		w.put("local", kids[:last], "in", kids[last], "end")
	case "let":
		w.put("local", kids[:last-1], "in", kids[last-1], "in", kids[last], "end")
	case "eq":
		w.leftSide(kids[0])
		w.put("=", kids[1])
	case "if", "cond":
		w.put("if", kids[0], "then", kids[1], "else", kids[2], "end")
	case "case":
		w.put("case", kids[0], "of")
		w.between("[]", kids[1:last])
		w.put("else", kids[last], "end")
	case "arm":
		w.put(kids[0], "then", kids[1])
	case "apply", "call":
		w.put("{", kids, "}")
	case "thread", "future":
		w.put("thread", kids[0], "end")
	case "try":
		w.put("try", kids[0], "catch", kids[1], "then", kids[2], "end")
	case "raise":
		w.put("raise", kids[0], "end")
	case "choose":
		w.put("choose")
		w.between("[]", kids)
		w.put("end")
	case "proc", "fun", "lazy", "fn", "pr":
		w.procedure(x)
	default:
		w.plain(x)
	}
}

// leftSide writes the left side of an eq, where a keyword would begin a statement.
func (w *writer) leftSide(x api.Syn) {
	switch x.Kind {
	case "fn", "pr", "future", "let", "cond":
		w.put("(", x, ")")
	default:
		w.put(x)
	}
}

func (w *writer) procedure(x api.Syn) {
	switch x.Kind {
	case "proc":
		w.put("proc", "{", variable(x.Text))
	case "fun":
		w.put("fun", "{", variable(x.Text))
	case "lazy":
		w.put("fun", "lazy", "{", variable(x.Text))
	case "fn":
		w.put("fun", "{", "$")
	case "pr":
		w.put("proc", "{", "$")
	}
	last := len(x.Kids) - 1
	w.put(x.Kids[:last], "}", x.Kids[last], "end")
}

// plain writes an expression of a kind that does not begin with a keyword.
func (w *writer) plain(x api.Syn) {
	switch x.Kind {
	case "var":
		w.add(api.TokVar, x.Text, false)
	case "any":
		w.put("_")
	case "int":
		w.add(api.TokInt, strconv.Itoa(x.Int), false)
	case "atom":
		w.add(api.TokAtom, x.Text, true)
	case "op":
		w.put("(", x.Kids[0], x.Text, x.Kids[1], ")")
	case "tuple":
		w.tuple(x)
	}
}

func (w *writer) tuple(x api.Syn) {
	if x.Text == "|" && len(x.Kids) == 2 {
		w.put("(", x.Kids[0], "|", x.Kids[1], ")")
		return
	}
	w.add(api.TokAtom, x.Text, false)
	w.put("(", x.Kids, ")")
}

// withParentheses returns the tokens, with parentheses around each atom that would begin a tuple with the parenthesis behind it. It goes from the right to the left, as these can be behind another atom.
func withParentheses(items []item) []api.Token {
	open := api.Token{Kind: api.TokSymbol, Text: "("}
	end := api.Token{Kind: api.TokSymbol, Text: ")"}
	var out []api.Token
	for _, x := range slices.Backward(items) {
		if x.isAtom && len(out) > 0 && out[len(out)-1] == open {
			out = append(out, end, x.Token, open)
		} else {
			out = append(out, x.Token)
		}
	}
	slices.Reverse(out)
	return out
}
