package parse

import "leatwork/api"

// program reads a whole source.
func (r *reader) program() api.Syn {
	if len(r.tokens) == 0 {
		return node("skip")
	}
	return r.statements()
}

// statements reads a statement, or a sequence of them.
func (r *reader) statements() api.Syn {
	out := []api.Syn{r.statement()}
	for r.seesStatement() {
		out = append(out, r.statement())
	}
	if len(out) == 1 {
		return out[0]
	}
	return node("seq", out...)
}

// seesStatement reports whether a token comes next with which a statement can begin.
func (r *reader) seesStatement() bool {
	switch r.peek().Kind {
	case api.TokInt, api.TokAtom, api.TokVar:
		return true
	}
	return r.sees("_", "(", "[", "{", "skip", "local", "if", "case", "proc", "fun", "thread", "try", "raise", "choose")
}

// statementsTo reads statements and the keyword behind them.
func (r *reader) statementsTo(end string) api.Syn {
	x := r.statements()
	r.want(end)
	return x
}

func (r *reader) statement() api.Syn {
	if r.peek().Kind == api.TokKeyword {
		return r.keyStatement(r.take().Text)
	}
	x := r.expression()
	switch {
	case r.skip("="):
		return node("eq", x, r.expression())
	case x.Kind == "call":
		return node("apply", x.Kids...)
	}
	panic(malformed)
}

// keyStatement reads a statement from behind the keyword with which it begins.
func (r *reader) keyStatement(word string) api.Syn {
	switch word {
	case "skip":
		return node("skip")
	case "local":
		return node("local", append(r.variables("in"), r.statementsTo("end"))...)
	case "if":
		return node("if", r.expressionTo("then"), r.statements(), r.elsePart(node("skip")))
	case "case":
		return r.caseStatement()
	case "proc":
		return r.named("proc", (*reader).statements)
	case "fun":
		if r.skip("lazy") {
			return r.named("lazy", (*reader).expression)
		}
		return r.named("fun", (*reader).expression)
	case "thread":
		return node("thread", r.statementsTo("end"))
	case "try":
		return node("try", r.statementsTo("catch"), variable(r.name()), r.catchPart())
	case "raise":
		return node("raise", r.expressionTo("end"))
	case "choose":
		return r.choose()
	}
	panic(malformed)
}

// elsePart reads the else part of an if or a case and its end, or returns other if it is left out.
func (r *reader) elsePart(other api.Syn) api.Syn {
	if r.skip("else") {
		other = r.statements()
	}
	r.want("end")
	return other
}

func (r *reader) catchPart() api.Syn {
	r.want("then")
	return r.statementsTo("end")
}

func (r *reader) caseStatement() api.Syn {
	kids := []api.Syn{r.expressionTo("of"), r.arm()}
	for r.skip("[]") {
		kids = append(kids, r.arm())
	}
	noElse := node("raise", api.Syn{Kind: "atom", Text: "noelse"})
	return node("case", append(kids, r.elsePart(noElse))...)
}

// arm reads an arm of a case. That its expression is a pattern is asked of all that has been read.
func (r *reader) arm() api.Syn {
	return node("arm", r.expressionTo("then"), r.statements())
}

func (r *reader) choose() api.Syn {
	kids := []api.Syn{r.statements()}
	for !r.skip("end") {
		r.want("[]")
		kids = append(kids, r.statements())
	}
	return node("choose", kids...)
}

// named reads a procedure that has a name.
func (r *reader) named(kind string, body func(*reader) api.Syn) api.Syn {
	r.want("{")
	name := r.name()
	return api.Syn{Kind: kind, Text: name, Kids: r.procedure(body)}
}
