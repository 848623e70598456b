package kernel

import (
	"slices"

	"leatwork/api"
)

// statement translates a statement, and returns its number.
func (t *translator) statement(x api.Syn, in *scope) int {
	kids, last := x.Kids, len(x.Kids)-1
	switch x.Kind {
	case "seq", "thread", "choose":
		return t.emit(api.Stmt{Op: x.Kind}, t.statements(kids, in)...)
	case "local":
		inner, made := t.enter(in, kids[:last]...)
		return t.emit(api.Stmt{Op: "local", Vars: made}, t.statement(kids[last], inner))
	case "eq":
		return t.equation(kids[0], kids[1], in)
	case "if":
		return t.ask(kids[:1], in, func(vars []int) int {
			return t.emit(api.Stmt{Op: "if", Vars: vars}, t.statements(kids[1:], in)...)
		})
	case "case":
		return t.ask(kids[:1], in, func(vars []int) int {
			return t.arms(kids[1:last], kids[last], vars[0], in)
		})
	case "apply", "raise":
		return t.ask(kids, in, func(vars []int) int {
			return t.emit(api.Stmt{Op: x.Kind, Vars: vars})
		})
	case "proc", "fun", "lazy":
		return t.procedure(x, t.known(x.Text, in), in)
	case "try":
		first := t.statement(kids[0], in)
		inner, made := t.enter(in, kids[1])
		return t.emit(api.Stmt{Op: "try", Vars: made}, first, t.statement(kids[2], inner))
	}
	return t.emit(api.Stmt{Op: "skip"})
}

// statements translates statements, and returns their numbers.
func (t *translator) statements(xs []api.Syn, in *scope) []int {
	var out []int
	for _, x := range xs {
		out = append(out, t.statement(x, in))
	}
	return out
}

// equation translates an eq of two expressions.
func (t *translator) equation(left, right api.Syn, in *scope) int {
	if left.Kind != "var" && right.Kind == "var" {
		left, right = right, left
	}
	return t.ask([]api.Syn{left}, in, func(vars []int) int {
		return t.put(right, vars[0], in)
	})
}

// procedure translates a procedure that is put into v.
func (t *translator) procedure(x api.Syn, v int, in *scope) int {
	last := len(x.Kids) - 1
	inner, parameters := t.enter(in, x.Kids[:last]...)
	vars := append([]int{v}, parameters...)
	var body int
	if x.Kind == "proc" || x.Kind == "pr" {
		body = t.statement(x.Kids[last], inner)
	} else {
		result := t.variable("")
		vars = append(vars, result)
		body = t.put(x.Kids[last], result, inner)
		if x.Kind == "lazy" {
			body = t.emit(api.Stmt{Op: "need", Vars: []int{result}}, body)
		}
	}
	return t.emit(api.Stmt{Op: "proc", Vars: vars}, body)
}

// arms translates the arms of a case of v, with their else part. It goes from the last one to the first one, as each leads to those behind it.
func (t *translator) arms(arms []api.Syn, otherwise api.Syn, v int, in *scope) int {
	rest := t.statement(otherwise, in)
	for _, x := range slices.Backward(arms) {
		rest = t.arm(x.Kids[0], x.Kids[1], v, rest, in)
	}
	return rest
}

// arm translates an arm of a case of v, which leads to rest if its pattern does not fit.
func (t *translator) arm(pattern, body api.Syn, v, rest int, in *scope) int {
	switch pattern.Kind {
	case "any":
		return t.statement(body, in)
	case "var":
		inner, made := t.enter(in, pattern)
		bind := t.emit(api.Stmt{Op: "bind", Vars: []int{made[0], v}})
		return t.local(made, bind, t.statement(body, inner))
	case "tuple":
		inner, made := t.enter(in, pattern.Kids...)
		fits := t.statement(body, inner)
		// What is tested last comes first, as what is tested before it leads to it.
		for i, x := range slices.Backward(pattern.Kids) {
			fits = t.test(x, made[i], fits, rest)
		}
		vars := append([]int{v}, made...)
		return t.emit(api.Stmt{Op: "casetuple", Vars: vars, Text: pattern.Text}, fits, rest)
	}
	return t.test(pattern, v, t.statement(body, in), rest)
}

// test emits the test of whether v is a constant. Anything fits what is not one.
func (t *translator) test(x api.Syn, v, fits, rest int) int {
	switch x.Kind {
	case "int":
		return t.emit(api.Stmt{Op: "caseint", Vars: []int{v}, Int: x.Int}, fits, rest)
	case "atom":
		return t.emit(api.Stmt{Op: "caseatom", Vars: []int{v}, Text: x.Text}, fits, rest)
	}
	return fits
}
