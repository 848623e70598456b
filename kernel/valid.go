package kernel

import (
	"slices"

	"leatwork/api"
)

// mostOthers is how many variables may be given beside the builtins.
const mostOthers = 50

// check reports whether a program is valid, and if it is, returns the free variables of each statement.
func check(p api.Prog) ([]set, bool) {
	if !areCounted(p) || !areNamed(p) || !areShaped(p) || !areMadeOnce(p) {
		return nil, false
	}
	order, ok := partsFirst(p)
	if !ok {
		return nil, false
	}
	free := freeOfAll(p.Stmts, order)
	if !isKnown(free[p.Main], p.Given) || !areFreeTold(p, free) {
		return nil, false
	}
	return free, true
}

// isIndex reports whether n is one of the numbers of so many items.
func isIndex(n, count int) bool {
	return 0 <= n && n < count
}

func areIndices(ns []int, count int) bool {
	for _, n := range ns {
		if !isIndex(n, count) {
			return false
		}
	}
	return true
}

// areCounted reports whether Main is a statement, the given variables are variables, and there are not too many of either.
func areCounted(p api.Prog) bool {
	return isIndex(p.Main, len(p.Stmts)) && len(p.Stmts) <= api.MaxStmts && p.Given <= len(p.Names) && len(p.Names) <= api.MaxSlots
}

// areNamed reports whether all variables have names that they may have.
func areNamed(p api.Prog) bool {
	first := Builtins()
	if p.Given < len(first) || !slices.Equal(p.Names[:len(first)], first) || !areOthers(p.Names[len(first):p.Given]) {
		return false
	}
	for _, name := range p.Names[p.Given:] {
		if name != "" && !isIdentifier(name) {
			return false
		}
	}
	return true
}

// areOthers reports whether these can be the names of the given variables that are no builtins.
func areOthers(names []string) bool {
	if len(names) > mostOthers {
		return false
	}
	taken := Builtins()
	for _, name := range names {
		if !isIdentifier(name) || slices.Contains(taken, name) {
			return false
		}
		taken = append(taken, name)
	}
	return true
}

// areShaped reports whether all statements have what their Op asks for, and all numbers in them are those of something.
func areShaped(p api.Prog) bool {
	for _, s := range p.Stmts {
		if !isShaped(s) || !areIndices(s.Vars, len(p.Names)) || !areIndices(s.Free, len(p.Names)) || !areIndices(s.Parts, len(p.Stmts)) {
			return false
		}
	}
	return true
}

// areMadeOnce reports whether each variable that is not given is made at one place, and no given one at any.
func areMadeOnce(p api.Prog) bool {
	places := make([]int, len(p.Names))
	for v := range p.Given {
		places[v] = 1
	}
	for _, s := range p.Stmts {
		_, made, _ := roles(s)
		for _, v := range made {
			places[v]++
		}
	}
	return !slices.ContainsFunc(places, func(n int) bool { return n != 1 })
}

// partsFirst returns the numbers of all statements, each one after those of its parts, if none leads to itself.
func partsFirst(p api.Prog) ([]int, bool) {
	var order []int
	begun, ended := make([]bool, len(p.Stmts)), make([]bool, len(p.Stmts))
	var visit func(s int) bool
	visit = func(s int) bool {
		if begun[s] {
			return ended[s]
		}
		begun[s] = true
		for _, part := range p.Stmts[s].Parts {
			if !visit(part) {
				return false
			}
		}
		ended[s] = true
		order = append(order, s)
		return true
	}
	for s := range p.Stmts {
		if !visit(s) {
			return nil, false
		}
	}
	return order, true
}

// isKnown reports whether all variables of a set are given.
func isKnown(vars set, given int) bool {
	for _, v := range vars.list() {
		if v >= given {
			return false
		}
	}
	return true
}

// areFreeTold reports whether the Free of each procedure are the variables that it uses from outside. Unlike what is known, this is also asked where Main does not lead.
func areFreeTold(p api.Prog, free []set) bool {
	for _, s := range p.Stmts {
		if s.Op != "proc" {
			continue
		}
		outside := freeWithin(s, free)
		if !slices.Equal(s.Free, outside.list()) {
			return false
		}
	}
	return true
}
