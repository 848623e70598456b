package kernel

import (
	"math/bits"

	"leatwork/api"
)

// wordBits is how many variables a word of a set has room for.
const wordBits = 64

// set is a set of variables of a program.
type set [(api.MaxSlots + wordBits - 1) / wordBits]uint64

func (s *set) add(vars ...int) {
	for _, v := range vars {
		s[v/wordBits] |= 1 << (v % wordBits)
	}
}

func (s *set) remove(vars ...int) {
	for _, v := range vars {
		s[v/wordBits] &^= 1 << (v % wordBits)
	}
}

func (s *set) join(other set) {
	for i, word := range other {
		s[i] |= word
	}
}

func (s *set) has(v int) bool {
	return s[v/wordBits]>>(v%wordBits)&1 == 1
}

// list returns the variables, rising.
func (s *set) list() []int {
	var out []int
	for i, word := range s {
		for ; word != 0; word &= word - 1 {
			out = append(out, i*wordBits+bits.TrailingZeros64(word))
		}
	}
	return out
}
