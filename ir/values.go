package ir

import (
	"intarsia/api"
)

// goesToBlocks says whether each edge goes to a block that is there, and none to block 0.
func goesToBlocks(f api.Func) bool {
	for _, b := range f.Blocks {
		for _, to := range To(b.Term) {
			if to < 1 || to >= len(f.Blocks) {
				return false
			}
		}
	}
	return true
}

// begins tells of each block which variables have a value at its begin, and whether it is reached, where all edges go to blocks.
func begins(f api.Func) (at []set, reached []bool) {
	at, reached = make([]set, len(f.Blocks)), make([]bool, len(f.Blocks))
	more := defined(f.Blocks)
	var changed []int
	come := func(b int, have set) {
		if reached[b] {
			have = have.shared(at[b])
			if have == at[b] {
				return
			}
		}
		at[b], reached[b] = have, true
		changed = append(changed, b)
	}
	come(0, set{}.with(f.Params...))
	// Each time that a block has changed, it is new or has less: so this ends.
	for len(changed) > 0 {
		last := len(changed) - 1
		b := changed[last]
		changed = changed[:last]
		have := at[b].and(more[b])
		for _, to := range To(f.Blocks[b].Term) {
			come(to, have)
		}
	}
	return at, reached
}

// defined is what each block defines.
func defined(l []api.Block) []set {
	all := make([]set, len(l))
	for n, b := range l {
		for _, i := range b.Ins {
			all[n] = all[n].with(i.Dst)
		}
	}
	return all
}

// readsOnly says whether all that a block reads, and its end needs, has a value, if these have one at its begin.
func readsOnly(b api.Block, have set) bool {
	for _, i := range b.Ins {
		if !have.has(i.A, i.B) || !have.has(i.Args...) {
			return false
		}
		have = have.with(i.Dst)
	}
	return have.has(b.Term.A)
}
