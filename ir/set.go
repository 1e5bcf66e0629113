package ir

import (
	"intarsia/api"
)

const bitsOfWord = 64

// set is a set of variables, of each a bit.
type set [api.MaxVars/bitsOfWord + 1]uint64

// with is a set with variables more; 0 is none.
func (s set) with(vars ...int) set {
	for _, v := range vars {
		if v != 0 {
			s[v/bitsOfWord] |= 1 << (v % bitsOfWord)
		}
	}
	return s
}

// has says whether all of these are in it.
func (s set) has(vars ...int) bool {
	return s.with(vars...) == s
}

// and is a set of what is in it, or in another one.
func (s set) and(other set) set {
	for i, w := range other {
		s[i] |= w
	}
	return s
}

// shared is a set of what is in it, and in another one.
func (s set) shared(other set) set {
	for i, w := range other {
		s[i] &= w
	}
	return s
}

// list are its variables, rising.
func (s set) list() (l []int) {
	for v := 1; v <= api.MaxVars; v++ {
		if s.has(v) {
			l = append(l, v)
		}
	}
	return l
}
