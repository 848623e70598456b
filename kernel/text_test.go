package kernel_test

import (
	"slices"
	"strconv"
	"strings"
	"testing"

	"leatwork/api"
	"leatwork/kernel"
)

// readText reads the text of a program.
func readText(t testing.TB, s string) []api.Stmt {
	t.Helper()
	var out []api.Stmt
	for i, line := range strings.SplitAfter(s, "\n") {
		if line == "" {
			break
		}
		head, tail, ok := strings.Cut(line, ":")
		number, op, ok2 := strings.Cut(head, " ")
		if !ok || !ok2 || number != strconv.Itoa(i) || !strings.HasSuffix(tail, "\n") {
			t.Fatalf("the line %q of %q is malformed", line, s)
		}
		out = append(out, readLine(t, op, strings.Split(strings.TrimSuffix(tail, "\n"), " ")[1:]))
	}
	return out
}

// readLine reads what comes after the colon.
func readLine(t testing.TB, op string, words []string) api.Stmt {
	t.Helper()
	out := api.Stmt{Op: op}
	if i := slices.Index(words, "/"); i >= 0 {
		out.Free = numbers(t, words[i+1:])
		words = words[:i]
	}
	if i := slices.Index(words, ">"); i >= 0 && i < len(words)-1 {
		out.Parts = numbers(t, words[i+1:])
		words = words[:i]
	}
	last := len(words) - 1
	switch op {
	case "int", "caseint":
		out.Int = numbers(t, words[last:])[0]
		words = words[:last]
	case "atom", "tuple", "caseatom", "casetuple", "op":
		out.Text = words[last]
		words = words[:last]
	}
	out.Vars = numbers(t, words)
	return out
}

func numbers(t testing.TB, words []string) []int {
	t.Helper()
	var out []int
	for _, w := range words {
		n, err := strconv.Atoi(w)
		if err != nil || strconv.Itoa(n) != w {
			t.Fatalf("%q is no number", w)
		}
		out = append(out, n)
	}
	return out
}

// The line of each Op, with and without what it may leave out.
func TestLines(t *testing.T) {
	p := progOf("X Y", "A B C D E F",
		api.Stmt{Op: "skip"},
		api.Stmt{Op: "bind", Vars: []int{10, 11}},
		api.Stmt{Op: "int", Vars: []int{10}},
		api.Stmt{Op: "int", Vars: []int{11}, Int: -api.MaxInt},
		api.Stmt{Op: "atom", Vars: []int{10}, Text: "|"},
		api.Stmt{Op: "tuple", Vars: []int{10, 11, 11}, Text: "#"},
		api.Stmt{Op: "local", Vars: []int{12, 13}, Parts: []int{0}},
		api.Stmt{Op: "proc", Vars: []int{10}, Parts: []int{0}},
		api.Stmt{Op: "proc", Vars: []int{10, 14, 15}, Parts: []int{1}, Free: []int{10, 11}},
		api.Stmt{Op: "if", Vars: []int{10}, Parts: []int{2, 0}},
		api.Stmt{Op: "caseint", Vars: []int{10}, Parts: []int{0, 1}},
		api.Stmt{Op: "caseint", Vars: []int{10}, Int: 7, Parts: []int{0, 1}},
		api.Stmt{Op: "caseatom", Vars: []int{10}, Text: "if", Parts: []int{0, 1}},
		api.Stmt{Op: "casetuple", Vars: []int{10, 16}, Text: "f", Parts: []int{0, 1}},
		api.Stmt{Op: "apply", Vars: []int{0}},
		api.Stmt{Op: "apply", Vars: []int{10, 11, 0}},
		api.Stmt{Op: "thread", Parts: []int{0}},
		api.Stmt{Op: "need", Vars: []int{10}, Parts: []int{0}},
		api.Stmt{Op: "try", Vars: []int{17}, Parts: []int{0, 0}},
		api.Stmt{Op: "raise", Vars: []int{11}},
		api.Stmt{Op: "choose", Parts: []int{0, 0, 1}},
		api.Stmt{Op: "op", Vars: []int{10, 11, 10}, Text: ">"},
		api.Stmt{Op: "op", Vars: []int{10, 11, 10}, Text: "-"},
		api.Stmt{Op: "seq", Parts: []int{0, 0, 22}},
	)
	want := lines("skip:; bind: 10 11; int: 10 0; int: 11 -1099511627776; atom: 10 |; tuple: 10 11 11 #; local: 12 13 > 0; proc: 10 > 0; proc: 10 14 15 > 1 / 10 11; if: 10 > 2 0; caseint: 10 0 > 0 1; caseint: 10 7 > 0 1; caseatom: 10 if > 0 1; casetuple: 10 16 f > 0 1; apply: 0; apply: 10 11 0; thread: > 0; need: 10 > 0; try: 17 > 0 0; raise: 11; choose: > 0 0 1; op: 10 11 10 >; op: 10 11 10 -; seq: > 0 0 22")
	if got := text(t, p); got != want || got != textOf(p) {
		t.Errorf("Text = %s, want %s", got, want)
	}
	if got := readText(t, want); !slices.EqualFunc(got, p.Stmts, equalStmts) {
		t.Errorf("the text is read as %v", got)
	}
}

// A text has at most 16·MaxText bytes.
func TestLongText(t *testing.T) {
	const most = 16 * api.MaxText
	for _, extra := range []int{-1, 0, 1, 2, 1000, 3000000} {
		p := progOf("X", "", api.Stmt{Op: "apply"})
		p.Stmts[0].Vars = varsOfBytes(most + extra - len("0 apply:\n"))
		s, e := kernel.Text(p)
		if extra <= 0 && (e != api.OK || len(s) != most+extra || s != textOf(p)) || extra > 0 && (e != api.ErrLong || s != "") {
			t.Errorf("Text of a program whose text has %d bytes: %d bytes, %d", most+extra, len(s), e)
		}
	}
	p := progOf("X", "", api.Stmt{Op: "seq", Parts: []int{1, 1}}, api.Stmt{Op: "apply"}, api.Stmt{Op: "raise", Vars: []int{9}})
	first, last := "0 seq: > 1 1\n", "2 raise: 9\n"
	for _, extra := range []int{0, 1} {
		p.Stmts[1].Vars = varsOfBytes(most + extra - len(first) - len("1 apply:\n") - len(last))
		if s, e := kernel.Text(p); extra == 0 && (e != api.OK || len(s) != most) || extra == 1 && (e != api.ErrLong || s != "") {
			t.Errorf("Text of several lines with %d bytes: %d bytes, %d", most+extra, len(s), e)
		}
	}
	p.Stmts[0].Parts[0] = 3
	if s, e := kernel.Text(p); e != api.ErrForm || s != "" {
		t.Errorf("Text of what is long and not valid: %d", e)
	}
}

// varsOfBytes is a list of variables that are written as so many bytes, with a blank before each.
func varsOfBytes(n int) []int {
	var out []int
	for ; n%len(" 10") != 0; n -= len(" 0") {
		out = append(out, 0)
	}
	return append(out, slices.Repeat([]int{10}, n/len(" 10"))...)
}
