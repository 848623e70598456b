package kernel

// names are variables by the identifiers that stand for them.
type names map[string]int

func (n names) add(name string, v int) {
	n[name] = v
}

func (n names) get(name string) (int, bool) {
	v, ok := n[name]
	return v, ok
}

// scope is what is known at some place of a source: what was made known last, and what is known around that.
type scope struct {
	names
	outer *scope
}

// find returns the variable that an identifier stands for: the innermost one hides the others.
func (s *scope) find(name string) (int, bool) {
	for ; s != nil; s = s.outer {
		if v, ok := s.get(name); ok {
			return v, true
		}
	}
	return 0, false
}
