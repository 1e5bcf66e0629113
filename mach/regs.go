package mach

import (
	"intarsia/api"
)

// set is a set of registers, of each whether it is in it.
type set [api.MaxRegs]bool

// setOf is a set of registers that a right machine may have.
func setOf(regs ...int) set {
	return set{}.with(regs...)
}

// with is a set with registers more.
func (s set) with(regs ...int) set {
	for _, reg := range regs {
		s[reg] = true
	}
	return s
}

// has says whether all of these are in it.
func (s set) has(regs ...int) bool {
	return s.with(regs...) == s
}

// isSmall says whether a machine has no more, and no fewer, of anything than may be.
func isSmall(m api.Machine) bool {
	return 1 <= m.Regs && m.Regs <= api.MaxRegs && len(m.Args) <= api.MaxArgs && len(m.Saved) <= m.Regs
}

// areRegs says whether these are registers of a machine.
func areRegs(m api.Machine, regs ...int) bool {
	for _, reg := range regs {
		if reg < 0 || reg >= m.Regs {
			return false
		}
	}
	return true
}

// unlike says whether no register stands twice.
func unlike(regs ...int) bool {
	var seen set
	for _, reg := range regs {
		if seen.has(reg) {
			return false
		}
		seen = seen.with(reg)
	}
	return true
}

// rise says whether each is above the one ahead of it.
func rise(regs ...int) bool {
	for n := 1; n < len(regs); n++ {
		if regs[n] <= regs[n-1] {
			return false
		}
	}
	return true
}
