package kernel_test

import (
	"maps"
	"regexp"
	"slices"
	"strings"

	"leatwork/api"
)

var (
	identifierForm = regexp.MustCompile(`^[A-Z][A-Za-z0-9_]{0,15}$`)
	atomForm       = regexp.MustCompile(`^([a-z][A-Za-z0-9_]{0,15}|\||#)$`)
	opForm         = regexp.MustCompile(`^(\+|-|\*|==|\\=|<|=<|>|>=)$`)
	noText         = regexp.MustCompile(`^$`)
)

// row is a row of the table of Ops: how many Vars and Parts there are at least and at most, the Text, and whether there are an Int and Free.
type row struct {
	least, most           int
	leastParts, mostParts int
	text                  *regexp.Regexp
	int, free             bool
}

const any1 = 1 << 40

// rows is the table of Ops.
var rows = map[string]row{
	"skip":      {0, 0, 0, 0, noText, false, false},
	"seq":       {0, 0, 2, any1, noText, false, false},
	"local":     {1, any1, 1, 1, noText, false, false},
	"bind":      {2, 2, 0, 0, noText, false, false},
	"int":       {1, 1, 0, 0, noText, true, false},
	"atom":      {1, 1, 0, 0, atomForm, false, false},
	"tuple":     {2, 9, 0, 0, atomForm, false, false},
	"proc":      {1, any1, 1, 1, noText, false, true},
	"if":        {1, 1, 2, 2, noText, false, false},
	"caseint":   {1, 1, 2, 2, noText, true, false},
	"caseatom":  {1, 1, 2, 2, atomForm, false, false},
	"casetuple": {2, 9, 2, 2, atomForm, false, false},
	"apply":     {1, any1, 0, 0, noText, false, false},
	"thread":    {0, 0, 1, 1, noText, false, false},
	"need":      {1, 1, 1, 1, noText, false, false},
	"try":       {1, 1, 2, 2, noText, false, false},
	"raise":     {1, 1, 0, 0, noText, false, false},
	"choose":    {0, 0, 2, any1, noText, false, false},
	"op":        {3, 3, 0, 0, opForm, false, false},
}

func (r row) fits(s api.Stmt) bool {
	return r.least <= len(s.Vars) && len(s.Vars) <= r.most &&
		r.leastParts <= len(s.Parts) && len(s.Parts) <= r.mostParts &&
		r.text.MatchString(s.Text) &&
		(s.Int == 0 || r.int && -api.MaxInt <= s.Int && s.Int <= api.MaxInt) &&
		(r.free || len(s.Free) == 0)
}

func within(list []int, count int) bool {
	return !slices.ContainsFunc(list, func(n int) bool { return n < 0 || n >= count })
}

// validByRules is Valid by the sentences of the chapter, one after the other.
func validByRules(p api.Prog) bool {
	if len(p.Stmts) < 1 || len(p.Stmts) > 1200 || len(p.Names) > 800 || p.Given < 10 || p.Given > 60 || p.Given > len(p.Names) {
		return false
	}
	if !within([]int{p.Main}, len(p.Stmts)) || strings.Join(p.Names[:10], " ") != builtinNames {
		return false
	}
	for i, name := range p.Names {
		if i < p.Given && slices.Contains(p.Names[:i], name) || !identifierForm.MatchString(name) && (i < p.Given || name != "") {
			return false
		}
	}
	places := map[int]int{}
	for _, s := range p.Stmts {
		r, ok := rows[s.Op]
		if !ok || !r.fits(s) || !within(s.Vars, len(p.Names)) || !within(s.Free, len(p.Names)) || !within(s.Parts, len(p.Stmts)) {
			return false
		}
		made, _ := makes(s)
		for _, v := range made {
			places[v]++
		}
	}
	for v := range p.Names {
		if v < p.Given && places[v] != 0 || v >= p.Given && places[v] != 1 {
			return false
		}
	}
	return !leadsToItself(p) && usesKnown(p, p.Main, map[int]bool{}) && tellsFree(p)
}

// leadsToItself reports whether some statement can be reached from its parts, by adding what parts lead to until nothing is new.
func leadsToItself(p api.Prog) bool {
	to := make([]map[int]bool, len(p.Stmts))
	for i, s := range p.Stmts {
		to[i] = map[int]bool{}
		for _, part := range s.Parts {
			to[i][part] = true
		}
	}
	for range p.Stmts {
		for i := range to {
			for j := range maps.Clone(to[i]) {
				maps.Copy(to[i], to[j])
			}
		}
	}
	for i := range to {
		if to[i][i] {
			return true
		}
	}
	return false
}

// usesKnown reports whether on all ways from a statement only variables are used that are known there.
func usesKnown(p api.Prog, number int, known map[int]bool) bool {
	s := p.Stmts[number]
	for _, v := range slices.Concat(uses(s), s.Free) {
		if v >= p.Given && !known[v] {
			return false
		}
	}
	made, at := makes(s)
	for i, part := range s.Parts {
		inner := known
		if i == at {
			inner = maps.Clone(known)
			for _, v := range made {
				inner[v] = true
			}
		}
		if !usesKnown(p, part, inner) {
			return false
		}
	}
	return true
}

// tellsFree reports whether the Free of all procedures, also of those that Main does not lead to, are what they should be.
func tellsFree(p api.Prog) bool {
	for i, s := range p.Stmts {
		if s.Op == "proc" && !slices.Equal(s.Free, outsideOf(p, i)) {
			return false
		}
	}
	return true
}
