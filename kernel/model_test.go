package kernel_test

import (
	"fmt"
	"maps"
	"slices"
	"strings"

	"leatwork/api"
)

// slot is a variable of the model, which gets its number when it comes up.
type slot struct {
	name   string
	number int // below 0 until it has one
}

// term is a statement of the model, which gets its number when it is finished.
type term struct {
	op, text    string
	int         int
	vars        []*slot
	made        []*slot // those of vars that it makes
	parts       []*term
	ahead       []*term // what is translated before it, whether or not it leads to that
	number      int
	hasNumber   bool
	free        []int
	isTry       bool
	isProcedure bool
}

// model translates in two goes: first into terms and slots, then it numbers these.
type model struct {
	stmts   []*term
	names   []string
	unknown bool
}

type known map[string]*slot

func (k known) with(slots ...*slot) known {
	out := maps.Clone(k)
	for _, s := range slots {
		if s.name != "" {
			out[s.name] = s
		}
	}
	return out
}

// translated is what the chapter says of a valid statement and valid given names.
func translated(x api.Syn, given []string) (api.Prog, api.Errno) {
	m := &model{}
	around := known{}
	for _, name := range append(strings.Fields(builtinNames), given...) {
		s := &slot{name, -1}
		m.makeUp(s)
		around[name] = s
	}
	top := m.statement(x, around)
	if m.unknown {
		return api.Prog{}, api.ErrName
	}
	count := len(m.names)
	m.finish(top)
	if len(m.stmts) > api.MaxStmts || len(m.names) > api.MaxSlots {
		return api.Prog{}, api.ErrLong
	}
	p := api.Prog{Names: m.names, Given: count, Main: top.number}
	for _, s := range m.stmts {
		p.Stmts = append(p.Stmts, s.stmt())
	}
	for i, s := range m.stmts {
		if s.isProcedure {
			p.Stmts[i].Free = outsideOf(p, i)
		}
	}
	return p, api.OK
}

func (m *model) makeUp(slots ...*slot) {
	for _, s := range slots {
		s.number = len(m.names)
		m.names = append(m.names, s.name)
	}
}

// finish numbers a term and all before it.
func (m *model) finish(x *term) {
	if x.hasNumber {
		return
	}
	x.hasNumber = true
	for _, a := range x.ahead {
		m.finish(a)
	}
	if !x.isTry {
		m.makeUp(x.made...)
	}
	for i, p := range x.parts {
		if x.isTry && i == 1 {
			m.makeUp(x.made...)
		}
		m.finish(p)
	}
	x.number = len(m.stmts)
	m.stmts = append(m.stmts, x)
}

func (x *term) stmt() api.Stmt {
	out := api.Stmt{Op: x.op, Text: x.text, Int: x.int}
	for _, s := range x.vars {
		out.Vars = append(out.Vars, s.number)
	}
	for _, p := range x.parts {
		out.Parts = append(out.Parts, p.number)
	}
	return out
}

func simple(op string, vars []*slot, parts ...*term) *term {
	return &term{op: op, vars: vars, parts: parts}
}

func local(made []*slot, parts ...*term) *term {
	return &term{op: "local", vars: made, made: made, parts: []*term{simple("seq", nil, parts...)}}
}

func (m *model) look(name string, k known) *slot {
	s, ok := k[name]
	if !ok {
		m.unknown = true
		return &slot{}
	}
	return s
}

func slotsOf(xs []api.Syn) []*slot {
	var out []*slot
	for _, x := range xs {
		name := ""
		if x.Kind == "var" {
			name = x.Text
		}
		out = append(out, &slot{name, -1})
	}
	return out
}

// around is a term with what its variables are asked for put before it.
func (m *model) around(k known, asked []api.Syn, vars []*slot, x *term) *term {
	var made []*slot
	var parts []*term
	for i, a := range asked {
		if a.Kind != "var" {
			made = append(made, vars[i])
			parts = append(parts, m.into(vars[i], a, k))
		}
	}
	if len(made) == 0 {
		return x
	}
	return local(made, append(parts, x)...)
}

func (m *model) asked(k known, xs []api.Syn) []*slot {
	var out []*slot
	for _, x := range xs {
		if x.Kind == "var" {
			out = append(out, m.look(x.Text, k))
		} else {
			out = append(out, &slot{"", -1})
		}
	}
	return out
}

func (m *model) all(xs []api.Syn, k known) []*term {
	var out []*term
	for _, x := range xs {
		out = append(out, m.statement(x, k))
	}
	return out
}

func (m *model) statement(x api.Syn, k known) *term {
	n := len(x.Kids)
	switch x.Kind {
	case "skip":
		return simple("skip", nil)
	case "seq", "thread", "choose":
		return simple(x.Kind, nil, m.all(x.Kids, k)...)
	case "local":
		made := slotsOf(x.Kids[:n-1])
		return &term{op: "local", vars: made, made: made, parts: m.all(x.Kids[n-1:], k.with(made...))}
	case "eq":
		if l, r := x.Kids[0], x.Kids[1]; l.Kind == "var" {
			return m.into(m.look(l.Text, k), r, k)
		} else if r.Kind == "var" {
			return m.into(m.look(r.Text, k), l, k)
		}
		v := &slot{"", -1}
		return local([]*slot{v}, m.into(v, x.Kids[0], k), m.into(v, x.Kids[1], k))
	case "if":
		vars := m.asked(k, x.Kids[:1])
		return m.around(k, x.Kids[:1], vars, simple("if", vars, m.all(x.Kids[1:], k)...))
	case "apply", "raise":
		vars := m.asked(k, x.Kids)
		return m.around(k, x.Kids, vars, simple(x.Kind, vars))
	case "proc", "fun", "lazy":
		return m.procedure(x, m.look(x.Text, k), k)
	case "try":
		made := slotsOf(x.Kids[1:2])
		return &term{op: "try", vars: made, made: made, isTry: true, parts: []*term{m.statement(x.Kids[0], k), m.statement(x.Kids[2], k.with(made...))}}
	case "case":
		vars := m.asked(k, x.Kids[:1])
		rest := m.statement(x.Kids[n-1], k)
		for i := n - 2; i > 0; i-- {
			rest = m.arm(vars[0], x.Kids[i].Kids[0], x.Kids[i].Kids[1], rest, k)
		}
		return m.around(k, x.Kids[:1], vars, rest)
	}
	panic(x.Kind)
}

// arm is an arm, which has what it leads to, or would lead to, ahead of it.
func (m *model) arm(v *slot, pattern, body api.Syn, rest *term, k known) *term {
	var out *term
	switch pattern.Kind {
	case "any":
		out = m.statement(body, k)
	case "var":
		made := slotsOf([]api.Syn{pattern})
		out = local(made, simple("bind", []*slot{made[0], v}), m.statement(body, k.with(made...)))
	case "int", "atom":
		out = constant(v, pattern, m.statement(body, k), rest)
	default:
		made := slotsOf(pattern.Kids)
		fits := m.statement(body, k.with(made...))
		for i := len(made) - 1; i >= 0; i-- {
			if kind := pattern.Kids[i].Kind; kind == "int" || kind == "atom" {
				fits = constant(made[i], pattern.Kids[i], fits, rest)
			}
		}
		out = &term{op: "casetuple", text: pattern.Text, vars: append([]*slot{v}, made...), made: made, parts: []*term{fits, rest}}
	}
	out.ahead = append([]*term{rest}, out.ahead...)
	return out
}

func constant(v *slot, x api.Syn, fits, rest *term) *term {
	out := simple("case"+x.Kind, []*slot{v}, fits, rest)
	out.text, out.int = x.Text, x.Int
	return out
}

func (m *model) procedure(x api.Syn, v *slot, k known) *term {
	n := len(x.Kids)
	made := slotsOf(x.Kids[:n-1])
	inside := k.with(made...)
	out := &term{op: "proc", isProcedure: true}
	if x.Kind == "proc" || x.Kind == "pr" {
		out.parts = m.all(x.Kids[n-1:], inside)
	} else {
		r := &slot{"", -1}
		made = append(made, r)
		out.parts = []*term{m.into(r, x.Kids[n-1], inside)}
		if x.Kind == "lazy" {
			out.parts = []*term{simple("need", []*slot{r}, out.parts...)}
		}
	}
	out.vars, out.made = append([]*slot{v}, made...), made
	return out
}

// into is an expression that is put into v.
func (m *model) into(v *slot, x api.Syn, k known) *term {
	n := len(x.Kids)
	switch x.Kind {
	case "var":
		return simple("bind", []*slot{v, m.look(x.Text, k)})
	case "any":
		return simple("skip", nil)
	case "int", "atom":
		return &term{op: x.Kind, text: x.Text, int: x.Int, vars: []*slot{v}}
	case "tuple", "op":
		vars := m.asked(k, x.Kids)
		return m.around(k, x.Kids, vars, &term{op: x.Kind, text: x.Text, vars: append([]*slot{v}, vars...)})
	case "call":
		vars := m.asked(k, x.Kids)
		return m.around(k, x.Kids, vars, simple("apply", append(slices.Clone(vars), v)))
	case "fn", "pr":
		return m.procedure(x, v, k)
	case "future":
		return simple("thread", nil, m.into(v, x.Kids[0], k))
	case "let":
		made := slotsOf(x.Kids[:n-2])
		inside := k.with(made...)
		return local(made, m.statement(x.Kids[n-2], inside), m.into(v, x.Kids[n-1], inside))
	case "cond":
		vars := m.asked(k, x.Kids[:1])
		return m.around(k, x.Kids[:1], vars, simple("if", vars, m.into(v, x.Kids[1], k), m.into(v, x.Kids[2], k)))
	}
	panic(x.Kind)
}

// makes returns the variables that a statement makes, and the index of the part in which they are known.
func makes(s api.Stmt) ([]int, int) {
	switch s.Op {
	case "local":
		return s.Vars, 0
	case "proc", "casetuple":
		return s.Vars[1:], 0
	case "try":
		return s.Vars, 1
	}
	return nil, 0
}

// uses returns the variables that a statement uses itself, but for its Free.
func uses(s api.Stmt) []int {
	switch s.Op {
	case "local", "try":
		return nil
	case "proc", "casetuple":
		return s.Vars[:1]
	}
	return s.Vars
}

// walk calls do with the variables that a statement uses at some place and that are not made on the way there, going through all ways.
func walk(p api.Prog, number int, inside map[int]bool, withFree bool, do func(int)) {
	s := p.Stmts[number]
	used := uses(s)
	if withFree {
		used = slices.Concat(used, s.Free)
	}
	for _, v := range used {
		if !inside[v] {
			do(v)
		}
	}
	made, at := makes(s)
	for i, part := range s.Parts {
		inner := inside
		if i == at && len(made) > 0 {
			inner = maps.Clone(inside)
			for _, v := range made {
				inner[v] = true
			}
		}
		walk(p, part, inner, withFree, do)
	}
}

func rising(set map[int]bool) []int {
	return slices.Sorted(maps.Keys(set))
}

// freeOf is Free by walking.
func freeOf(p api.Prog, number int) []int {
	out := map[int]bool{}
	walk(p, number, map[int]bool{}, true, func(v int) { out[v] = true })
	return rising(out)
}

// outsideOf is what the Free of a procedure should be.
func outsideOf(p api.Prog, number int) []int {
	out, inside := map[int]bool{}, map[int]bool{}
	for _, v := range p.Stmts[number].Vars[1:] {
		inside[v] = true
	}
	walk(p, p.Stmts[number].Parts[0], inside, false, func(v int) { out[v] = true })
	return rising(out)
}

// reached returns the numbers of the statements that Main leads to, itself included.
func reached(p api.Prog) []int {
	set := map[int]bool{}
	var visit func(int)
	visit = func(number int) {
		if !set[number] {
			set[number] = true
			for _, part := range p.Stmts[number].Parts {
				visit(part)
			}
		}
	}
	visit(p.Main)
	return rising(set)
}

// declarative is Declarative as the chapter says it.
func declarative(p api.Prog) bool {
	for _, i := range reached(p) {
		s := p.Stmts[i]
		if s.Op == "try" || s.Op == "choose" {
			return false
		}
		for _, v := range slices.Concat(uses(s), s.Free) {
			if slices.Contains([]string{"IsDet", "NewCell", "Exchange", "NewPort", "Send", "Show"}, p.Names[v]) && v < p.Given {
				return false
			}
		}
	}
	return true
}

// textOf is Text as the chapter says it, however long.
func textOf(p api.Prog) string {
	var out strings.Builder
	for i, s := range p.Stmts {
		fmt.Fprintf(&out, "%d %s:", i, s.Op)
		for _, v := range s.Vars {
			fmt.Fprintf(&out, " %d", v)
		}
		if s.Text != "" {
			fmt.Fprintf(&out, " %s", s.Text)
		}
		if strings.HasSuffix(s.Op, "int") {
			fmt.Fprintf(&out, " %d", s.Int)
		}
		if len(s.Parts) > 0 {
			fmt.Fprintf(&out, " > %s", strings.Trim(fmt.Sprint(s.Parts), "[]"))
		}
		if len(s.Free) > 0 {
			fmt.Fprintf(&out, " / %s", strings.Trim(fmt.Sprint(s.Free), "[]"))
		}
		out.WriteString("\n")
	}
	return out.String()
}
