package parse

import (
	"slices"
	"strconv"
	"strings"

	"leatwork/api"
)

// side is where an operator may have another one of its level as an operand.
type side int

const (
	neither side = iota
	onLeft
	onRight
)

// levels are the operators from the weakest to the strongest level, with blanks between them. The first one is no op: it makes tuples.
var levels = [...]struct {
	operators string
	more      side
}{
	{"|", onRight},
	{"== \\= < =< > >=", neither},
	{"+ -", onLeft},
	{"*", onLeft},
}

// operatorsOf returns the operators of a level.
func operatorsOf(level int) []string {
	return strings.Fields(levels[level].operators)
}

func isOp(s string) bool {
	for level := 1; level < len(levels); level++ {
		if slices.Contains(operatorsOf(level), s) {
			return true
		}
	}
	return false
}

func (r *reader) expression() api.Syn {
	return r.operation(0)
}

// expressionTo reads an expression and the keyword or symbol behind it.
func (r *reader) expressionTo(end string) api.Syn {
	x := r.expression()
	r.want(end)
	return x
}

// operation reads an expression whose operators are of a level or of stronger ones.
func (r *reader) operation(level int) api.Syn {
	if level == len(levels) {
		return r.operand()
	}
	x := r.operation(level + 1)
	for r.sees(operatorsOf(level)...) {
		operator := r.take().Text
		if levels[level].more == onRight {
			return operate(operator, x, r.operation(level))
		}
		x = operate(operator, x, r.operation(level+1))
		if levels[level].more == neither {
			break
		}
	}
	return x
}

func operate(operator string, left, right api.Syn) api.Syn {
	if operator == "|" {
		return pair(left, right)
	}
	return api.Syn{Kind: "op", Text: operator, Kids: []api.Syn{left, right}}
}

// pair is a tuple of which lists are made.
func pair(first, rest api.Syn) api.Syn {
	return api.Syn{Kind: "tuple", Text: "|", Kids: []api.Syn{first, rest}}
}

// operand reads an expression that no operator divides.
func (r *reader) operand() api.Syn {
	t := r.take()
	switch t.Kind {
	case api.TokInt:
		return integer(t.Text)
	case api.TokVar:
		return variable(t.Text)
	case api.TokAtom:
		return r.atomOrTuple(t.Text)
	case api.TokKeyword:
		return r.keyExpression(t.Text)
	}
	switch t.Text {
	case "_":
		return node("any")
	case "(":
		return r.expressionTo(")")
	case "{":
		return node("call", r.expressions("}")...)
	case "[":
		return list(r.expressions("]"))
	}
	panic(malformed)
}

// integer returns the number of a token, which lex has found to be within the limits.
func integer(text string) api.Syn {
	n, _ := strconv.Atoi(text)
	return api.Syn{Kind: "int", Int: n}
}

// atomOrTuple reads what follows an atom.
func (r *reader) atomOrTuple(text string) api.Syn {
	if !r.skip("(") {
		return api.Syn{Kind: "atom", Text: text}
	}
	return api.Syn{Kind: "tuple", Text: text, Kids: r.expressions(")")}
}

func list(elements []api.Syn) api.Syn {
	out := api.Syn{Kind: "atom", Text: "nil"}
	for _, x := range slices.Backward(elements) {
		out = pair(x, out)
	}
	return out
}

// keyExpression reads an expression from behind the keyword with which it begins.
func (r *reader) keyExpression(word string) api.Syn {
	switch word {
	case "fun":
		return r.unnamed("fn", (*reader).expression)
	case "proc":
		return r.unnamed("pr", (*reader).statements)
	case "thread":
		return node("future", r.expressionTo("end"))
	case "local":
		return node("let", append(r.variables("in"), r.statementsTo("in"), r.expressionTo("end"))...)
	case "if":
		return node("cond", r.expressionTo("then"), r.expressionTo("else"), r.expressionTo("end"))
	}
	panic(malformed)
}

// unnamed reads a procedure that has no name.
func (r *reader) unnamed(kind string, body func(*reader) api.Syn) api.Syn {
	r.want("{")
	r.want("$")
	return node(kind, r.procedure(body)...)
}
