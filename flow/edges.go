package flow

import (
	"iter"

	"intarsia/api"
	"intarsia/bits"
	"intarsia/ir"
)

// blocks are all that a function has.
func blocks(f api.Func) (l []int) {
	for b := range f.Blocks {
		l = append(l, b)
	}
	return l
}

// leaving tells the edges from blocks that a function has, be it closed or not.
func leaving(f api.Func, from ...int) iter.Seq[api.Edge] {
	return func(yield func(e api.Edge) bool) {
		for _, b := range from {
			for arm, to := range ir.To(f.Blocks[b].Term) {
				if !yield(api.Edge{From: b, Arm: arm, To: to}) {
					return
				}
			}
		}
	}
}

// edges tells all edges of a function, in order; none, unless it is closed.
func edges(f api.Func) iter.Seq[api.Edge] {
	if !Closed(f) {
		return leaving(f)
	}
	return leaving(f, blocks(f)...)
}

// those are the edges that are asked for, in order; none, unless the function is closed.
func those(f api.Func, asked func(e api.Edge) bool) (l []api.Edge) {
	for e := range edges(f) {
		if asked(e) {
			l = append(l, e)
		}
	}
	return l
}

// behind is a set of the blocks to which edges go from some.
func behind(f api.Func, from ...int) (s bits.Set) {
	for e := range leaving(f, from...) {
		s = s.With(e.To)
	}
	return s
}
