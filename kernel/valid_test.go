package kernel_test

import (
	"maps"
	"math"
	"math/rand"
	"slices"
	"strconv"
	"strings"
	"testing"

	"leatwork/api"
	"leatwork/kernel"
)

// example is a program whose Main is a valid statement of an Op.
func example(op string) api.Prog {
	s := api.Stmt{Op: op}
	others := ""
	r := rows[op]
	for i := range r.least {
		s.Vars = append(s.Vars, 10+i%2)
	}
	switch op {
	case "local", "try":
		s.Vars, others = []int{12}, "E"
	case "casetuple":
		s.Vars, others = []int{10, 12}, "A"
	case "proc":
		s.Vars, s.Free, others = []int{10, 12, 13}, []int{11}, "A -"
	}
	switch r.text {
	case atomForm:
		s.Text = "f"
	case opForm:
		s.Text = "+"
	}
	for i := range r.leastParts {
		s.Parts = append(s.Parts, i%2)
	}
	bind := api.Stmt{Op: "bind", Vars: []int{11, 11}}
	if op == "proc" {
		s.Parts[0] = 1
	}
	return progOf("X Y", others, skipStmt, bind, s)
}

var skipStmt = api.Stmt{Op: "skip"}

// changed is the example of an Op, changed by change.
func changed(op string, change func(p *api.Prog, s *api.Stmt)) api.Prog {
	p := example(op)
	change(&p, &p.Stmts[2])
	return p
}

// Each row of the table of Ops, valid and not, of each field that an Op uses and does not use.
func TestRowsOfOps(t *testing.T) {
	for op, r := range rows {
		check := func(what string, want bool, change func(p *api.Prog, s *api.Stmt)) {
			t.Helper()
			checkValid(t, op+" "+what, changed(op, change), want)
		}
		check("as it is", true, func(p *api.Prog, s *api.Stmt) {})
		check("with empty lists", true, func(p *api.Prog, s *api.Stmt) {
			for _, l := range []*[]int{&s.Vars, &s.Parts, &s.Free} {
				if *l == nil {
					*l = []int{}
				}
			}
		})
		check("with another Op", false, func(p *api.Prog, s *api.Stmt) { s.Op += "s" })
		check("with no Op", false, func(p *api.Prog, s *api.Stmt) { s.Op = "" })
		hasText := r.text != noText
		check("without a Text", !hasText, func(p *api.Prog, s *api.Stmt) { s.Text = "" })
		for _, text := range []string{"a", "abcdefghijklmnop", "abcdefghijklmnopq", "|", "#", "if", "X", "_", " ", "f ", "f(", "1", "", "+", "-", "*", "==", `\=`, "<", "=<", ">", ">=", "=", "<=", "+ ", "a\n", "é"} {
			check("with the Text "+text, r.text.MatchString(text), func(p *api.Prog, s *api.Stmt) { s.Text = text })
		}
		for _, n := range []int{0, 1, -1, api.MaxInt, -api.MaxInt, api.MaxInt + 1, -api.MaxInt - 1, math.MaxInt, math.MinInt} {
			check("with the Int "+strconv.Itoa(n), n == 0 || r.int && -api.MaxInt <= n && n <= api.MaxInt, func(p *api.Prog, s *api.Stmt) { s.Int = n })
		}
		for n := range 12 {
			check("with so many Parts: "+strconv.Itoa(n), r.leastParts <= n && n <= r.mostParts, func(p *api.Prog, s *api.Stmt) {
				s.Parts = slices.Repeat([]int{0}, n)
				if op == "proc" {
					s.Free = nil
				}
			})
			made, _ := makes(example(op).Stmts[2])
			check("with so many Vars: "+strconv.Itoa(n), r.least <= n && n <= r.most, func(p *api.Prog, s *api.Stmt) {
				used := uses(*s)
				p.Names = p.Names[:12]
				for s.Vars = nil; len(s.Vars) < n; {
					if len(s.Vars) < len(used) || len(made) == 0 {
						s.Vars = append(s.Vars, 10)
						continue
					}
					s.Vars = append(s.Vars, len(p.Names))
					p.Names = append(p.Names, "")
				}
			})
		}
		if op != "proc" {
			check("with Free", false, func(p *api.Prog, s *api.Stmt) { s.Free = []int{10} })
		}
		for _, n := range []int{-1, 14, 15, math.MaxInt, math.MinInt} {
			for i := range example(op).Stmts[2].Vars {
				check("with a variable that is none", false, func(p *api.Prog, s *api.Stmt) { s.Vars[i] = n })
			}
			for i := range example(op).Stmts[2].Parts {
				check("with a part that is none", false, func(p *api.Prog, s *api.Stmt) { s.Parts[i] = n })
			}
			for i := range example(op).Stmts[2].Free {
				check("with a Free that is none", false, func(p *api.Prog, s *api.Stmt) { s.Free[i] = n })
			}
		}
	}
}

// How many statements, variables and given ones there may be, and which ones Main and parts are.
func TestValidCounts(t *testing.T) {
	checkValid(t, "no program", api.Prog{}, false)
	checkValid(t, "a skip", progOf("", "", skipStmt), true)
	checkValid(t, "no statements", progOf("", ""), false)
	for _, n := range []int{1199, 1200, 1201, 5000} {
		p := progOf("", "", slices.Repeat([]api.Stmt{skipStmt}, n)...)
		checkValid(t, "skips", p, n <= 1200)
	}
	for _, n := range []int{1, 789, 790, 791, 5000} {
		s := api.Stmt{Op: "local", Parts: []int{1}}
		for i := range n {
			s.Vars = append(s.Vars, 10+i)
		}
		p := progOf("", strings.Repeat("- ", n), s, skipStmt)
		p.Main = 0
		checkValid(t, "a local of many", p, n <= 790)
	}
	for n := range 70 {
		given := ""
		for i := range n {
			given += " X" + strconv.Itoa(i)
		}
		checkValid(t, strconv.Itoa(n)+" given ones", progOf(given, "", skipStmt), n <= 50)
	}
	for _, n := range []int{-1, 0, 9, 10, 12, 13, 60, math.MaxInt, math.MinInt} {
		p := progOf("X", "A", skipStmt, api.Stmt{Op: "local", Vars: []int{11}, Parts: []int{0}})
		checkValid(t, "Given 11", p, true)
		p.Given = n
		checkValid(t, "Given "+strconv.Itoa(n), p, false)
	}
	for n, want := range map[int]bool{-1: false, 0: true, 1: true, 2: false, math.MaxInt: false, math.MinInt: false} {
		p := progOf("X", "", skipStmt, api.Stmt{Op: "raise", Vars: []int{10}})
		p.Main = n
		checkValid(t, "Main "+strconv.Itoa(n), p, want)
	}
	p := progOf("X", "", skipStmt)
	for given := range p.Given {
		q := clone(p)
		q.Given, q.Names = given, q.Names[:given]
		checkValid(t, "with fewer names", q, given == 10)
	}
}

// Names that are too few, not different, or no identifiers, and builtins that are not first.
func TestValidNames(t *testing.T) {
	base := progOf("X Y", "A -", skipStmt, api.Stmt{Op: "local", Vars: []int{12, 13}, Parts: []int{0}})
	checkValid(t, "as it is", base, true)
	set := func(what string, i int, name string, want bool) {
		t.Helper()
		p := clone(base)
		p.Names[i] = name
		checkValid(t, what, p, want)
	}
	for _, name := range []string{"", "x", "_", "$", "1", "X ", " X", "X-", "Abcdefghijklmnopq", "é", "É", "\x00"} {
		set("a given name "+name, 10, name, false)
		set("another name "+name, 12, name, name == "")
		set("a builtin "+name, 3, name, false)
	}
	for _, name := range []string{"Z", "Abcdefghijklmnop", "X_1", "A__"} {
		set("a given name "+name, 10, name, true)
		set("another name "+name, 12, name, true)
	}
	set("equal given names", 10, "Y", false)
	set("a given name of a builtin", 11, "Show", false)
	set("another name of a builtin", 12, "Show", true)
	set("another name of a given one", 12, "X", true)
	set("equal other names", 13, "A", true)
	for i := range 10 {
		set("a builtin with another name", i, "Z", false)
		p := clone(base)
		p.Names[i], p.Names[10] = p.Names[10], p.Names[i]
		checkValid(t, "a builtin that is not first", p, false)
		p = clone(base)
		p.Names[i], p.Names[(i+1)%10] = p.Names[(i+1)%10], p.Names[i]
		checkValid(t, "builtins in another order", p, false)
	}
	p := clone(base)
	p.Names = p.Names[:13]
	checkValid(t, "too few names", p, false)
	p = clone(base)
	p.Names = append(p.Names, "")
	checkValid(t, "too many names", p, false)
}

// Statements that lead to themselves, whether or not Main leads to them.
func TestCycles(t *testing.T) {
	thread := func(part int) api.Stmt { return api.Stmt{Op: "thread", Parts: []int{part}} }
	seq := func(parts ...int) api.Stmt { return api.Stmt{Op: "seq", Parts: parts} }
	checkValid(t, "none", progOf("", "", skipStmt, thread(0), thread(1)), true)
	checkValid(t, "one by itself", progOf("", "", thread(0)), false)
	checkValid(t, "two by each other", progOf("", "", thread(1), thread(0)), false)
	checkValid(t, "three", progOf("", "", thread(1), thread(2), thread(0)), false)
	checkValid(t, "a later part", progOf("", "", skipStmt, seq(0, 0, 1)), false)
	checkValid(t, "further down", progOf("", "", thread(1), thread(0), skipStmt, seq(2, 1)), false)
	checkValid(t, "not led to by Main", progOf("", "", thread(0), skipStmt), false)
	checkValid(t, "not led to by Main, three", progOf("", "", thread(1), thread(2), thread(0), skipStmt), false)
	checkValid(t, "parts with greater numbers", progOf("", "", seq(1, 2), skipStmt, skipStmt, thread(0)), true)
	p := progOf("", "", seq(1, 2), thread(2), thread(3), skipStmt)
	p.Main = 0
	checkValid(t, "a part of several ones", p, true)
}

// A variable that is made at no place, at two, or is a given one.
func TestMadeOnce(t *testing.T) {
	local := func(part int, vars ...int) api.Stmt { return api.Stmt{Op: "local", Vars: vars, Parts: []int{part}} }
	makers := []api.Stmt{
		{Op: "proc", Vars: []int{10, 11}, Parts: []int{0}},
		{Op: "casetuple", Vars: []int{10, 11}, Text: "f", Parts: []int{0, 0}},
		{Op: "try", Vars: []int{11}, Parts: []int{0, 0}},
		local(0, 11),
	}
	checkValid(t, "at no place", progOf("X", "A", skipStmt), false)
	checkValid(t, "at no place, but used", progOf("X", "A", api.Stmt{Op: "raise", Vars: []int{11}}), false)
	for _, m := range makers {
		checkValid(t, m.Op, progOf("X", "A", skipStmt, m), true)
		checkValid(t, m.Op+" and another one", progOf("X", "A", skipStmt, m, local(1, 11)), false)
		checkValid(t, m.Op+" and another one besides", progOf("X", "A", skipStmt, m, local(0, 11), api.Stmt{Op: "seq", Parts: []int{1, 2}}), false)
		checkValid(t, m.Op+" twice", progOf("X", "A", skipStmt, m, m), false)
		checkValid(t, m.Op+" and one to which Main does not lead", progOf("X", "A", skipStmt, local(0, 11), m), false)
		checkValid(t, m.Op+" of two", progOf("X", "A B", skipStmt, m, local(1, 12)), true)
		m.Vars = slices.Clone(m.Vars)
		m.Vars[len(m.Vars)-1] = 5
		checkValid(t, m.Op+" of a builtin", progOf("X", "", skipStmt, m), false)
		checkValid(t, m.Op+" of a builtin, and not of another", progOf("X", "A", skipStmt, m), false)
		p := progOf("X A", "", skipStmt, m)
		p.Stmts[1].Vars[len(m.Vars)-1] = 11
		checkValid(t, m.Op+" of a given one", p, false)
	}
	checkValid(t, "twice in one local", progOf("X", "A", skipStmt, local(0, 11, 11)), false)
	checkValid(t, "twice in one proc", progOf("X", "A", skipStmt, api.Stmt{Op: "proc", Vars: []int{10, 11, 11}, Parts: []int{0}}), false)
	checkValid(t, "twice in one casetuple", progOf("X", "A", skipStmt, api.Stmt{Op: "casetuple", Vars: []int{10, 11, 11}, Text: "f", Parts: []int{0, 0}}), false)
	p := progOf("X", "A", skipStmt, local(0, 11), api.Stmt{Op: "seq", Parts: []int{1, 1}})
	checkValid(t, "by a statement that is a part twice", p, true)
}

// A variable that is used where it is not made known.
func TestUsedWhereKnown(t *testing.T) {
	use := api.Stmt{Op: "bind", Vars: []int{10, 11}}
	for _, x := range []struct {
		op       string
		vars     []int
		in, text string
		parts    []bool // whether the variable is known in the part
	}{
		{"local", []int{11}, "", "", []bool{true}},
		{"proc", []int{10, 11}, "", "", []bool{true}},
		{"casetuple", []int{10, 11}, "", "f", []bool{true, false}},
		{"try", []int{11}, "", "", []bool{false, true}},
	} {
		for i, known := range x.parts {
			s := api.Stmt{Op: x.op, Vars: x.vars, Text: x.text, Parts: make([]int, len(x.parts))}
			s.Parts[i] = 1
			if x.op == "proc" {
				s.Free = []int{10}
			}
			checkValid(t, x.op, progOf("X", "A", skipStmt, use, s), known)
			checkValid(t, x.op+" deeper", progOf("X", "A", skipStmt, api.Stmt{Op: "thread", Parts: []int{2}}, use, s), known)
			checkValid(t, x.op+" and after it", progOf("X", "A", skipStmt, use, s, api.Stmt{Op: "seq", Parts: []int{2, 1}}), false)
			checkValid(t, x.op+" and before it", progOf("X", "A", skipStmt, use, s, api.Stmt{Op: "seq", Parts: []int{1, 2}}), false)
		}
	}
	checkValid(t, "a proc that is put into its parameter", progOf("X", "A", skipStmt, api.Stmt{Op: "proc", Vars: []int{11, 11}, Parts: []int{0}}), false)
	checkValid(t, "a casetuple of its own argument", progOf("X", "A", skipStmt, api.Stmt{Op: "casetuple", Vars: []int{11, 11}, Text: "f", Parts: []int{0, 0}}), false)
	for op := range rows {
		p := example(op)
		for i := range uses(p.Stmts[2]) {
			q := clone(p)
			q.Names = append(q.Names, "")
			last := len(q.Names) - 1
			q.Stmts[2].Vars[i] = last
			q.Stmts = append(q.Stmts, api.Stmt{Op: "local", Vars: []int{last}, Parts: []int{2}}, skipStmt)
			q.Main = 3
			checkValid(t, op+" uses a variable within", q, true)
			q.Main = 2
			checkValid(t, op+" uses a variable outside", q, false)
			q.Main, q.Stmts[3].Parts[0] = 2, 4
			checkValid(t, op+" uses a variable that another one makes", q, false)
		}
	}
}

// The Free of procedures: one too many, one too few, not rising, and none of its own.
func TestFreeOfProc(t *testing.T) {
	proc := func(free ...int) api.Prog {
		return progOf("X Y Z", "A B",
			api.Stmt{Op: "bind", Vars: []int{14, 12}},
			api.Stmt{Op: "apply", Vars: []int{6, 11, 13}},
			api.Stmt{Op: "seq", Parts: []int{0, 1}},
			api.Stmt{Op: "local", Vars: []int{14}, Parts: []int{2}},
			api.Stmt{Op: "proc", Vars: []int{10, 13}, Parts: []int{3}, Free: free})
	}
	checkValid(t, "as it is", proc(6, 11, 12), true)
	for _, free := range [][]int{{}, {6}, {6, 11}, {6, 12}, {11, 12}, {6, 11, 12, 12}, {6, 6, 11, 12}, {6, 10, 11, 12}, {0, 6, 11, 12}, {6, 11, 12, 13}, {6, 11, 12, 14}, {6, 12, 11}, {12, 11, 6}, {6, 11, 13}, {6, 11, 10}} {
		checkValid(t, "with others", proc(free...), false)
	}
	inner := progOf("X Y", "A B",
		api.Stmt{Op: "bind", Vars: []int{12, 13}},
		api.Stmt{Op: "proc", Vars: []int{11, 13}, Parts: []int{0}, Free: []int{12}},
		api.Stmt{Op: "proc", Vars: []int{10, 12}, Parts: []int{1}, Free: []int{11}})
	checkValid(t, "one in another", inner, true)
	for i, free := range map[int][]int{1: {}, 2: {11, 12}} {
		p := clone(inner)
		p.Stmts[i].Free = free
		checkValid(t, "one in another, with others", p, false)
	}
	recursive := progOf("X", "", api.Stmt{Op: "apply", Vars: []int{10}}, api.Stmt{Op: "proc", Vars: []int{10}, Parts: []int{0}, Free: []int{10}})
	checkValid(t, "of itself", recursive, true)
	recursive.Stmts[1].Free = nil
	checkValid(t, "of itself, without it", recursive, false)
}

// Of statements to which Main does not lead it is asked that their form is right, that none leads to itself, that each variable is made at one place, and that procedures tell their Free; but not that what they use is known.
func TestNotLedTo(t *testing.T) {
	base := progOf("X Y", "A B", skipStmt, api.Stmt{Op: "local", Vars: []int{12}, Parts: []int{0}}, api.Stmt{Op: "try", Vars: []int{13}, Parts: []int{0, 0}}, skipStmt)
	with := func(what string, want bool, s api.Stmt) {
		t.Helper()
		p := clone(base)
		p.Stmts[0] = s
		p.Stmts[1].Parts[0], p.Stmts[2].Parts[0], p.Stmts[2].Parts[1] = 3, 3, 3
		checkValid(t, what, p, want)
	}
	checkValid(t, "as it is", base, true)
	with("uses what is not known", true, api.Stmt{Op: "bind", Vars: []int{12, 13}})
	with("is a choose", true, api.Stmt{Op: "choose", Parts: []int{1, 2}})
	with("uses Show", true, api.Stmt{Op: "apply", Vars: []int{6, 10}})
	with("is malformed", false, api.Stmt{Op: "bind", Vars: []int{12}})
	with("has no Op", false, api.Stmt{})
	with("has a variable that is none", false, api.Stmt{Op: "bind", Vars: []int{12, 14}})
	with("has a part that is none", false, api.Stmt{Op: "thread", Parts: []int{4}})
	with("leads to itself", false, api.Stmt{Op: "thread", Parts: []int{0}})
	with("makes what is made", false, api.Stmt{Op: "local", Vars: []int{12}, Parts: []int{3}})
	with("makes what is given", false, api.Stmt{Op: "local", Vars: []int{11}, Parts: []int{3}})
	with("is a proc", true, api.Stmt{Op: "proc", Vars: []int{10}, Parts: []int{3}})
	with("is a proc that is put into what is not known", true, api.Stmt{Op: "proc", Vars: []int{12}, Parts: []int{3}})
	with("tells of other Free", false, api.Stmt{Op: "proc", Vars: []int{10}, Parts: []int{3}, Free: []int{11}})
	with("has a Free that is none", false, api.Stmt{Op: "proc", Vars: []int{10}, Parts: []int{3}, Free: []int{14}})
	p := clone(base)
	p.Stmts[0] = api.Stmt{Op: "choose", Parts: []int{1, 2}}
	p.Stmts[1].Parts[0], p.Stmts[2].Parts[0], p.Stmts[2].Parts[1] = 3, 3, 3
	if ok, e := kernel.Declarative(p); e != api.OK || !ok {
		t.Errorf("Declarative of what Main does not lead to: %v, %d", ok, e)
	}
	p.Main = 0
	if ok, e := kernel.Declarative(p); e != api.OK || ok {
		t.Errorf("Declarative of what Main leads to: %v, %d", ok, e)
	}
}

// The Free of procedures to which Main does not lead: just what their bodies use and do not make, whether or not it is known anywhere.
func TestFreeOfProcNotLedTo(t *testing.T) {
	apply := func(vars ...int) api.Stmt { return api.Stmt{Op: "apply", Vars: vars} }
	local := func(v, part int) api.Stmt { return api.Stmt{Op: "local", Vars: []int{v}, Parts: []int{part}} }
	proc := func(v, parameter, part int, free ...int) api.Stmt {
		return api.Stmt{Op: "proc", Vars: []int{v, parameter}, Parts: []int{part}, Free: free}
	}
	for what, stmts := range map[string][]api.Stmt{
		"uses nothing":                          {skipStmt, proc(10, 14, 0), local(12, 0), local(13, 0)},
		"uses a builtin":                        {apply(0), proc(10, 14, 0, 0), local(12, 0), local(13, 0)},
		"uses its parameter":                    {apply(14), proc(10, 14, 0), local(12, 0), local(13, 0)},
		"uses given ones":                       {apply(11, 14, 10, 11), proc(12, 14, 0, 10, 11), local(12, 1), local(13, 0)},
		"uses what it is put into":              {apply(11), proc(11, 14, 0, 11), local(12, 0), local(13, 0)},
		"uses what others make":                 {apply(13, 12), proc(10, 14, 0, 12, 13), skipStmt, local(12, 2), local(13, 2)},
		"uses what it makes":                    {apply(13, 12), local(12, 0), local(13, 1), proc(10, 14, 2)},
		"uses what is made around it":           {apply(12, 13), local(12, 0), proc(10, 14, 1, 13), local(13, 2)},
		"uses what it makes elsewhere":          {apply(12, 13), skipStmt, local(12, 1), local(13, 0), {Op: "seq", Parts: []int{2, 3}}, proc(10, 14, 4, 12)},
		"uses it in the first part of a try":    {apply(12, 13), local(13, 0), {Op: "try", Vars: []int{12}, Parts: []int{1, 1}}, proc(10, 14, 2, 12)},
		"uses it in the rest of a casetuple":    {apply(12, 13), local(13, 0), {Op: "casetuple", Vars: []int{11, 12}, Text: "f", Parts: []int{1, 1}}, proc(10, 14, 2, 11, 12)},
		"is in another one, which makes its":    {apply(11, 12, 14), proc(10, 12, 0, 11, 14), proc(10, 14, 1, 10, 11), local(13, 0)},
		"is in another one, which does not":     {apply(11, 12, 13), proc(10, 12, 0, 11, 13), proc(10, 14, 1, 10, 11, 13), local(13, 0)},
		"shares its body with another one":      {apply(11, 12, 14), proc(10, 12, 0, 11, 14), proc(10, 14, 0, 11, 12), local(13, 0)},
		"comes before its body, and is no part": {proc(10, 14, 1, 11), apply(11), local(12, 1), local(13, 2)},
	} {
		p := progOf("X Y", "A B C", append(stmts, skipStmt)...)
		checkValid(t, "a proc "+what, p, true)
		for i, s := range stmts {
			for _, free := range [][]int{{}, {0}, {10}, {11}, {12}, {13}, {14}, {10, 11}, {11, 12}, {11, 14}, {12, 13}, {13, 12}, {12, 12}, {10, 11, 13}, {10, 11, 12, 13, 14}} {
				if s.Op == "proc" && !slices.Equal(free, s.Free) {
					q := clone(p)
					q.Stmts[i].Free = free
					checkValid(t, "with other Free, a proc "+what, q, false)
				}
			}
		}
	}
}

// What Make leaves without a way from Main has procedures, too, which tell their Free.
func TestFreeOfProcsNotLedToOfMade(t *testing.T) {
	count := 0
	manyPrograms(t, 22, 3000, func(m maker, x api.Syn, p api.Prog) {
		led := reached(p)
		for i, s := range p.Stmts {
			if s.Op != "proc" || slices.Contains(led, i) {
				continue
			}
			count++
			v := m.Intn(len(p.Names))
			at, has := slices.BinarySearch(s.Free, v)
			q := clone(p)
			if has {
				q.Stmts[i].Free = slices.Delete(q.Stmts[i].Free, at, at+1)
			} else {
				q.Stmts[i].Free = slices.Insert(q.Stmts[i].Free, at, v)
			}
			checkValid(t, "made", p, true)
			checkValid(t, "made, with another Free", q, false)
		}
	})
	if count < 100 {
		t.Errorf("only %d procedures", count)
	}
}

// mutate changes something of a program, most often so that its form stays.
func (m maker) mutate(p *api.Prog) {
	s := &p.Stmts[m.Intn(len(p.Stmts))]
	replace := func(list []int, n int) {
		if len(list) > 0 {
			list[m.Intn(len(list))] = m.Intn(n+2) - 1
		}
	}
	insert := func(list []int, n int) []int { return slices.Insert(list, m.Intn(len(list)+1), m.Intn(n)) }
	remove := func(list []int) []int {
		if len(list) == 0 {
			return list
		}
		i := m.Intn(len(list))
		return slices.Delete(list, i, i+1)
	}
	switch m.Intn(16) {
	case 0, 1:
		replace(s.Vars, len(p.Names))
	case 2, 3:
		replace(s.Parts, len(p.Stmts))
	case 4:
		replace(s.Free, len(p.Names))
	case 5:
		s.Vars = insert(s.Vars, len(p.Names))
	case 6:
		s.Parts = insert(s.Parts, len(p.Stmts))
	case 7:
		s.Free = insert(s.Free, len(p.Names))
	case 8:
		s.Vars = remove(s.Vars)
	case 9:
		s.Parts = remove(s.Parts)
	case 10:
		s.Free = remove(s.Free)
	case 11:
		*s = p.Stmts[m.Intn(len(p.Stmts))]
	case 12:
		s.Op = slices.Sorted(maps.Keys(rows))[m.Intn(len(rows))]
	case 13:
		s.Text, s.Int = m.pick("", "", "a", "+", "X"), m.pickInt(0, 0, 1, api.MaxInt+1)
	case 14:
		p.Main = m.Intn(len(p.Stmts)+2) - 1
	default:
		p.Names[m.Intn(len(p.Names))] = m.pick("", "X", "Q", "Show", "a")
		p.Given = m.pickInt(p.Given, p.Given, p.Given+1, p.Given-1)
	}
}

func (m maker) pickInt(ns ...int) int { return ns[m.Intn(len(ns))] }

// Valid, Free, Declarative and Text of programs that were changed are as the rules say.
func TestChangedPrograms(t *testing.T) {
	count := map[bool]int{}
	m := maker{Rand: rand.New(rand.NewSource(21))}
	for range 40000 {
		given := []string{"X", "Y", "Z"}[:1+m.Intn(3)]
		p, e := kernel.Make(m.either(m.Intn(3), given), given)
		if e != api.OK || len(p.Stmts) > 40 {
			continue
		}
		for range 1 + m.Intn(2) {
			p = clone(p)
			m.mutate(&p)
		}
		want := validByRules(p)
		count[want]++
		if kernel.Valid(p) != want {
			t.Fatalf("Valid(%v), want %v", p, want)
		}
		if !want {
			checkValid(t, "changed", p, false)
			continue
		}
		if got := text(t, p); got != textOf(p) {
			t.Fatalf("Text = %s, want %s", got, textOf(p))
		}
		if got, e := kernel.Declarative(p); e != api.OK || got != declarative(p) {
			t.Fatalf("Declarative(%v) = %v, %d", p, got, e)
		}
		for s := range p.Stmts {
			if got, e := kernel.Free(p, s); e != api.OK || !slices.Equal(got, freeOf(p, s)) {
				t.Fatalf("Free(%v, %d) = %v, %d, want %v", p, s, got, e, freeOf(p, s))
			}
		}
	}
	if count[true] < 5000 || count[false] < 5000 {
		t.Errorf("valid: %v", count)
	}
}
