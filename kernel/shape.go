package kernel

import (
	"math"

	"leatwork/api"
	"leatwork/parse"
)

// amount is how many of something there may be.
type amount struct {
	least, most int
}

func (a amount) has(n int) bool {
	return a.least <= n && n <= a.most
}

func exactly(n int) amount {
	return amount{n, n}
}

func atLeast(n int) amount {
	return amount{n, math.MaxInt}
}

// withArguments is one variable, and those of the arguments of a tuple.
func withArguments() amount {
	return amount{1 + 1, 1 + api.MaxArity}
}

// shape is what the statements of an Op have.
type shape struct {
	vars, parts amount
	isText      func(string) bool // nil if they have no text
	hasInt      bool
	hasFree     bool
}

func shapeOf(op string) (shape, bool) {
	switch op {
	case "skip":
		return shape{}, true
	case "seq", "choose":
		return shape{parts: atLeast(2)}, true
	case "local":
		return shape{vars: atLeast(1), parts: exactly(1)}, true
	case "bind":
		return shape{vars: exactly(2)}, true
	case "int":
		return shape{vars: exactly(1), hasInt: true}, true
	case "atom":
		return shape{vars: exactly(1), isText: isAtom}, true
	case "tuple":
		return shape{vars: withArguments(), isText: isAtom}, true
	case "proc":
		return shape{vars: atLeast(1), parts: exactly(1), hasFree: true}, true
	case "if", "try":
		return shape{vars: exactly(1), parts: exactly(2)}, true
	case "caseint":
		return shape{vars: exactly(1), parts: exactly(2), hasInt: true}, true
	case "caseatom":
		return shape{vars: exactly(1), parts: exactly(2), isText: isAtom}, true
	case "casetuple":
		return shape{vars: withArguments(), parts: exactly(2), isText: isAtom}, true
	case "apply":
		return shape{vars: atLeast(1)}, true
	case "thread":
		return shape{parts: exactly(1)}, true
	case "need":
		return shape{vars: exactly(1), parts: exactly(1)}, true
	case "raise":
		return shape{vars: exactly(1)}, true
	case "op":
		return shape{vars: exactly(3), isText: isOperator}, true
	}
	return shape{}, false
}

// isShaped reports whether a statement has what its Op asks for, and nothing else.
func isShaped(s api.Stmt) bool {
	want, ok := shapeOf(s.Op)
	if !ok || !want.vars.has(len(s.Vars)) || !want.parts.has(len(s.Parts)) {
		return false
	}
	if want.isText == nil && s.Text != "" || want.isText != nil && !want.isText(s.Text) {
		return false
	}
	if !want.hasFree && len(s.Free) > 0 {
		return false
	}
	return s.Int == 0 || want.hasInt && isInteger(s.Int)
}

// isStatement reports whether a syntax tree is a valid one, of a statement.
func isStatement(x api.Syn) bool {
	switch x.Kind {
	case "skip", "seq", "local", "eq", "if", "case", "apply", "proc", "fun", "lazy", "thread", "try", "raise", "choose":
		return parse.Valid(x)
	}
	return false
}

func isIdentifier(s string) bool {
	return parse.Valid(api.Syn{Kind: "var", Text: s})
}

func isAtom(s string) bool {
	return parse.Valid(api.Syn{Kind: "atom", Text: s})
}

func isInteger(n int) bool {
	return parse.Valid(api.Syn{Kind: "int", Int: n})
}

func isOperator(s string) bool {
	operand := api.Syn{Kind: "any"}
	return parse.Valid(api.Syn{Kind: "op", Text: s, Kids: []api.Syn{operand, operand}})
}
