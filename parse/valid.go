package parse

import (
	"strconv"
	"strings"

	"leatwork/api"
	"leatwork/lex"
)

// hasLevels reports whether a syntax tree is at most some levels deep.
func hasLevels(x api.Syn, most int) bool {
	if most == 0 {
		return false
	}
	for _, k := range x.Kids {
		if !hasLevels(k, most-1) {
			return false
		}
	}
	return true
}

func isStatement(x api.Syn) bool {
	kids, ok := statementKids(x.Kind)
	return ok && isMade(x, kids)
}

func isExpression(x api.Syn) bool {
	kids, ok := expressionKids(x.Kind)
	return ok && isMade(x, kids)
}

// statementKids returns, for a kind of statements, what the kids are, in the letters of isOf: the one before `*` may be there any number of times, or not at all.
func statementKids(kind string) (string, bool) {
	switch kind {
	case "skip":
		return "", true
	case "seq":
		return "NNN*", true
	case "local":
		return "XX*S", true
	case "eq":
		return "EE", true
	case "if":
		return "ESS", true
	case "case":
		return "EAA*S", true
	case "apply":
		return "EE*", true
	case "proc":
		return "D*S", true
	case "fun", "lazy":
		return "D*E", true
	case "thread":
		return "S", true
	case "try":
		return "SXS", true
	case "raise":
		return "E", true
	case "choose":
		return "SSS*", true
	}
	return "", false
}

// expressionKids is statementKids for kinds of expressions.
func expressionKids(kind string) (string, bool) {
	switch kind {
	case "var", "any", "int", "atom":
		return "", true
	case "tuple", "call":
		return "EE*", true
	case "op":
		return "EE", true
	case "fn":
		return "D*E", true
	case "pr":
		return "D*S", true
	case "future":
		return "E", true
	case "let":
		return "XX*SE", true
	case "cond":
		return "EEE", true
	}
	return "", false
}

// isOf reports whether a syntax tree is what a letter stands for: A an arm, D a parameter, E an expression, N a statement that is no seq, P a pattern, S a statement, X a variable.
func isOf(letter byte, x api.Syn) bool {
	switch letter {
	case 'A':
		return x.Kind == "arm" && isMade(x, "PS")
	case 'D':
		return (x.Kind == "var" || x.Kind == "any") && isExpression(x)
	case 'E':
		return isExpression(x)
	case 'N':
		return x.Kind != "seq" && isStatement(x)
	case 'P':
		return isPattern(x)
	case 'S':
		return isStatement(x)
	case 'X':
		return x.Kind == "var" && isExpression(x)
	}
	return false
}

// isMade reports whether a syntax tree has the fields that its kind asks for, and kids as the letters say.
func isMade(x api.Syn, kids string) bool {
	letters, ok := spread(kids, len(x.Kids))
	if !ok || !hasText(x) || !hasInt(x) || x.Kind == "tuple" && len(x.Kids) > api.MaxArity {
		return false
	}
	var made []api.Syn
	for i, k := range x.Kids {
		if !isOf(letters[i], k) {
			return false
		}
		if letters[i] == 'X' || letters[i] == 'D' {
			made = append(made, k)
		}
	}
	return areDifferent(made)
}

// spread returns as many letters as there are kids, if that can be, by having the one before `*` as often as needed.
func spread(kids string, count int) (string, bool) {
	front, back, repeats := strings.Cut(kids, "*")
	if !repeats {
		return kids, len(kids) == count
	}
	last := len(front) - 1
	more := count - last - len(back)
	if more < 0 {
		return "", false
	}
	return front[:last] + strings.Repeat(front[last:], more) + back, true
}

// areDifferent reports whether no two variables among some syntax trees have the same name.
func areDifferent(xs []api.Syn) bool {
	names := map[string]bool{}
	for _, x := range xs {
		if x.Kind != "var" {
			continue
		}
		if names[x.Text] {
			return false
		}
		names[x.Text] = true
	}
	return true
}

func isPattern(x api.Syn) bool {
	if x.Kind != "tuple" {
		return isPlain(x) && isExpression(x)
	}
	for _, k := range x.Kids {
		if !isPlain(k) {
			return false
		}
	}
	return isExpression(x) && areDifferent(x.Kids)
}

// isPlain reports whether a syntax tree is of a kind that has no kids, as a pattern and its arguments may be.
func isPlain(x api.Syn) bool {
	switch x.Kind {
	case "var", "any", "int", "atom":
		return true
	}
	return false
}

func hasText(x api.Syn) bool {
	switch x.Kind {
	case "var", "proc", "fun", "lazy":
		return isToken(api.TokVar, x.Text)
	case "atom", "tuple":
		return isToken(api.TokAtom, x.Text)
	case "op":
		return isOp(x.Text)
	}
	return x.Text == ""
}

func hasInt(x api.Syn) bool {
	if x.Kind == "int" {
		return isToken(api.TokInt, strconv.Itoa(x.Int))
	}
	return x.Int == 0
}

func isToken(kind int, text string) bool {
	_, e := lex.Text([]api.Token{{Kind: kind, Text: text}})
	return e == api.OK
}
