package kernel_test

import (
	"math/rand"
	"slices"

	"leatwork/api"
)

// maker makes random syntax trees.
type maker struct {
	*rand.Rand
	stray int // one identifier of so many is any one, whether or not it is known; 0: none
}

func (m maker) pick(words ...string) string { return words[m.Intn(len(words))] }

// use is an identifier that is known, most often one of those that were made last.
func (m maker) use(known []string) api.Syn {
	if m.stray > 0 && m.Intn(m.stray) == 0 {
		return v(m.pick("X", "Y", "Z", "A", "B", "C", "D", "Show", "Abcdefghijklmnop"))
	}
	if len(known) == 0 {
		return v(m.pick("Wait", "IsDet", "NewCell", "Exchange", "NewPort", "Send", "Show", "Label", "Width", "Arg"))
	}
	return v(known[max(m.Intn(len(known)), m.Intn(len(known)))])
}

// identifiers is some identifiers that are different.
func (m maker) identifiers(least int) []api.Syn {
	var out []api.Syn
	all := []string{"A", "B", "C", "X", "Show"}
	for _, i := range m.Perm(len(all))[:least+m.Intn(3)] {
		out = append(out, v(all[i]))
	}
	return out
}

func (m maker) parameters() []api.Syn {
	out := m.identifiers(0)
	for range m.Intn(3) {
		out = slices.Insert(out, m.Intn(len(out)+1), anyone)
	}
	return out
}

// with is what is known where some identifiers are made known.
func with(known []string, xs ...api.Syn) []string {
	out := slices.Clone(known)
	for _, x := range xs {
		if x.Kind == "var" {
			out = append(out, x.Text)
		}
	}
	return out
}

func (m maker) constant() api.Syn {
	if m.Intn(2) == 0 {
		return integer(m.Intn(5) - 2)
	}
	return named("atom", m.pick("a", "b", "true", "nil", "|", "#", "if"))
}

func (m maker) plain(known []string) api.Syn {
	switch m.Intn(6) {
	case 0:
		return anyone
	case 1:
		return m.constant()
	}
	return m.use(known)
}

func (m maker) pattern() api.Syn {
	switch m.Intn(5) {
	case 0:
		return anyone
	case 1:
		return m.identifiers(1)[0]
	case 2:
		return m.constant()
	}
	kids := m.parameters()
	for len(kids) == 0 || len(kids) < api.MaxArity && m.Intn(2) == 0 {
		kids = slices.Insert(kids, m.Intn(len(kids)+1), m.constant())
	}
	return named("tuple", m.pick("f", "g", "|"), kids...)
}

func (m maker) expressions(least, most, depth int, known []string) []api.Syn {
	var out []api.Syn
	for range least + m.Intn(most-least+1) {
		out = append(out, m.expression(depth, known))
	}
	return out
}

func (m maker) statements(least, most, depth int, known []string) []api.Syn {
	var out []api.Syn
	for range least + m.Intn(most-least+1) {
		out = append(out, m.statement(depth, known))
	}
	return out
}

// expression is a random expression of about depth levels.
func (m maker) expression(depth int, known []string) api.Syn {
	if depth < 1 || m.Intn(5) == 0 {
		return m.plain(known)
	}
	d := depth - 1
	switch kind := m.pick("tuple", "tuple", "op", "op", "call", "call", "fn", "pr", "future", "let", "cond"); kind {
	case "tuple":
		return named(kind, m.pick("f", "g", "|"), m.expressions(1, 3, d, known)...)
	case "op":
		return named(kind, m.pick("+", "-", "*", "==", `\=`, "<", "=<", ">", ">="), m.expressions(2, 2, d, known)...)
	case "call":
		return node(kind, m.expressions(1, 3, d, known)...)
	case "fn":
		p := m.parameters()
		return node(kind, append(p, m.expression(d, with(known, p...)))...)
	case "pr":
		p := m.parameters()
		return node(kind, append(p, m.statement(d, with(known, p...)))...)
	case "future":
		return node(kind, m.expression(d, known))
	case "let":
		p := m.identifiers(1)
		inner := with(known, p...)
		return node(kind, append(p, m.statement(d, inner), m.expression(d, inner))...)
	default:
		return node("cond", m.expressions(3, 3, d, known)...)
	}
}

// statement is a random statement of about depth levels that is no seq.
func (m maker) statement(depth int, known []string) api.Syn {
	if depth < 1 {
		if m.Intn(3) == 0 {
			return skip
		}
		return node("eq", m.plain(known), m.plain(known))
	}
	d := depth - 1
	switch kind := m.pick("skip", "local", "local", "eq", "eq", "eq", "if", "case", "case", "apply", "apply", "proc", "fun", "lazy", "thread", "try", "raise", "choose"); kind {
	case "local":
		p := m.identifiers(1)
		return node(kind, append(p, m.either(d, with(known, p...)))...)
	case "eq":
		return node(kind, m.expressions(2, 2, d, known)...)
	case "if":
		return node(kind, m.expression(d, known), m.either(d, known), m.either(d, known))
	case "case":
		kids := []api.Syn{m.expression(d, known)}
		for range 1 + m.Intn(3) {
			p := m.pattern()
			kids = append(kids, node("arm", p, m.either(d, with(with(known, p), p.Kids...))))
		}
		return node(kind, append(kids, m.either(d, known))...)
	case "apply":
		return node(kind, m.expressions(1, 3, d, known)...)
	case "proc", "fun", "lazy":
		p := m.parameters()
		inner := with(known, p...)
		body := m.expression(d, inner)
		if kind == "proc" {
			body = m.either(d, inner)
		}
		return named(kind, m.use(known).Text, append(p, body)...)
	case "thread":
		return node(kind, m.either(d, known))
	case "try":
		e := m.identifiers(1)[0]
		return node(kind, m.either(d, known), e, m.either(d, with(known, e)))
	case "raise":
		return node(kind, m.expression(d, known))
	case "choose":
		return node(kind, m.statements(2, 3, d, known)...)
	}
	return skip
}

// either is a random statement, perhaps a seq.
func (m maker) either(depth int, known []string) api.Syn {
	if m.Intn(3) == 0 {
		return node("seq", m.statements(2, 3, depth, known)...)
	}
	return m.statement(depth, known)
}

// renamer gives each variable that is not given an identifier of its own.
type renamer struct{ count int }

func (r *renamer) fresh(env map[string]string, xs ...api.Syn) (map[string]string, []api.Syn) {
	inner := map[string]string{}
	for k, v := range env {
		inner[k] = v
	}
	var out []api.Syn
	for _, x := range xs {
		if x.Kind == "var" {
			inner[x.Text] = "V" + letters(r.count)
			x = v(inner[x.Text])
			r.count++
		}
		out = append(out, x)
	}
	return inner, out
}

// letters is a different identifier for each number.
func letters(n int) string {
	out := ""
	for ; n > 0; n /= 26 {
		out += string(rune('a' + n%26))
	}
	return out
}

// rename is the same statement or expression with other names.
func (r *renamer) rename(x api.Syn, env map[string]string) api.Syn {
	out, n := x, len(x.Kids)
	out.Kids = nil
	before, after := 0, n // the kids between these are made known
	switch x.Kind {
	case "var", "proc", "fun", "lazy":
		if name, ok := env[x.Text]; ok {
			out.Text = name
		}
	}
	switch x.Kind {
	case "local", "fn", "pr", "proc", "fun", "lazy":
		after = n - 1
	case "let":
		after = n - 2
	case "try":
		before, after = 1, 2
	case "arm":
		if after = 1; x.Kids[0].Kind == "tuple" {
			inner, kids := r.fresh(env, x.Kids[0].Kids...)
			return node("arm", named("tuple", x.Kids[0].Text, kids...), r.rename(x.Kids[1], inner))
		}
	default:
		after = 0
	}
	for _, k := range x.Kids[:before] {
		out.Kids = append(out.Kids, r.rename(k, env))
	}
	inner, made := r.fresh(env, x.Kids[before:after]...)
	out.Kids = append(out.Kids, made...)
	for _, k := range x.Kids[after:] {
		out.Kids = append(out.Kids, r.rename(k, inner))
	}
	return out
}
