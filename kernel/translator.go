package kernel

import "leatwork/api"

// translator collects the statements and the names of the variables of a program.
type translator struct {
	stmts   []api.Stmt
	names   []string
	unknown bool // an identifier stood for no variable
	long    bool // there was no room for a statement or a variable
}

// translate returns the program of a valid statement with some given variables.
func translate(x api.Syn, given []string) (api.Prog, api.Errno) {
	t := &translator{}
	around := &scope{names: names{}}
	for _, name := range given {
		around.add(name, t.variable(name))
	}
	t.statement(x, around)
	// Beyond the limits translating goes on, as a name that is unknown is the error that comes first.
	if t.unknown {
		return api.Prog{}, api.ErrName
	}
	if t.long {
		return api.Prog{}, api.ErrLong
	}
	putFree(t.stmts)
	return api.Prog{Stmts: t.stmts, Names: t.names, Given: len(given), Main: len(t.stmts) - 1}, api.OK
}

// emit adds a statement with some parts, and returns its number. It keeps the lists that it is given, so no two calls may be given the same one.
func (t *translator) emit(s api.Stmt, parts ...int) int {
	if len(t.stmts) == api.MaxStmts {
		t.long = true
		return 0
	}
	s.Parts = parts
	t.stmts = append(t.stmts, s)
	return len(t.stmts) - 1
}

// variable makes a new variable, and returns its number.
func (t *translator) variable(name string) int {
	if len(t.names) == api.MaxSlots {
		t.long = true
		return 0
	}
	t.names = append(t.names, name)
	return len(t.names) - 1
}

// known returns the variable that an identifier stands for.
func (t *translator) known(name string, in *scope) int {
	v, ok := in.find(name)
	if !ok {
		t.unknown = true
	}
	return v
}

// enter makes a new variable for each of some syntax trees, and returns a scope in which those that are var are known, and all of them.
func (t *translator) enter(in *scope, xs ...api.Syn) (*scope, []int) {
	inner := &scope{names{}, in}
	var made []int
	for _, x := range xs {
		if x.Kind != "var" {
			made = append(made, t.variable(""))
			continue
		}
		v := t.variable(x.Text)
		inner.add(x.Text, v)
		made = append(made, v)
	}
	return inner, made
}

// ask translates expressions that are asked for as variables, and what finish makes of these variables, and returns the statement of both.
func (t *translator) ask(xs []api.Syn, in *scope, finish func(vars []int) int) int {
	var vars, made []int
	for _, x := range xs {
		if x.Kind == "var" {
			vars = append(vars, t.known(x.Text, in))
			continue
		}
		v := t.variable("")
		vars = append(vars, v)
		made = append(made, v)
	}
	if len(made) == 0 {
		return finish(vars)
	}
	var parts []int
	for i, x := range xs {
		if x.Kind != "var" {
			parts = append(parts, t.put(x, vars[i], in))
		}
	}
	parts = append(parts, finish(vars))
	return t.local(made, parts...)
}

// local emits a local of variables, of a seq of parts.
func (t *translator) local(made []int, parts ...int) int {
	body := t.emit(api.Stmt{Op: "seq"}, parts...)
	return t.emit(api.Stmt{Op: "local", Vars: made}, body)
}
