package kernel

import "leatwork/api"

// put translates an expression that is put into v, and returns the number of the statement.
func (t *translator) put(x api.Syn, v int, in *scope) int {
	kids, last := x.Kids, len(x.Kids)-1
	into := []int{v}
	switch x.Kind {
	case "var":
		return t.emit(api.Stmt{Op: "bind", Vars: []int{v, t.known(x.Text, in)}})
	case "int":
		return t.emit(api.Stmt{Op: "int", Vars: into, Int: x.Int})
	case "atom":
		return t.emit(api.Stmt{Op: "atom", Vars: into, Text: x.Text})
	case "tuple", "op":
		return t.ask(kids, in, func(vars []int) int {
			return t.emit(api.Stmt{Op: x.Kind, Vars: append(into, vars...), Text: x.Text})
		})
	case "call":
		return t.ask(kids, in, func(vars []int) int {
			return t.emit(api.Stmt{Op: "apply", Vars: append(vars, v)})
		})
	case "fn", "pr":
		return t.procedure(x, v, in)
	case "future":
		return t.emit(api.Stmt{Op: "thread"}, t.put(kids[0], v, in))
	case "let":
		inner, made := t.enter(in, kids[:last-1]...)
		first := t.statement(kids[last-1], inner)
		return t.local(made, first, t.put(kids[last], v, inner))
	case "cond":
		return t.ask(kids[:1], in, func(vars []int) int {
			return t.emit(api.Stmt{Op: "if", Vars: vars}, t.put(kids[1], v, in), t.put(kids[2], v, in))
		})
	}
	return t.emit(api.Stmt{Op: "skip"})
}
