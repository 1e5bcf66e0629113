package flow

import (
	"slices"

	"intarsia/api"
)

// plainTo is where an end may go, as chapter 3 says it: nowhere, if the end is not right.
func plainTo(t api.Term) []int {
	switch {
	case t.Kind == api.TermJump && t.A == 0 && t.To[1] == 0:
		return []int{t.To[0]}
	case t.Kind == api.TermBranch && 1 <= t.A && t.A <= 200:
		return []int{t.To[0], t.To[1]}
	}
	return nil
}

func plainClosed(f api.Func) bool {
	if len(f.Blocks) < 1 || len(f.Blocks) > 200 {
		return false
	}
	for _, b := range f.Blocks {
		for _, to := range plainTo(b.Term) {
			if to < 0 || to > len(f.Blocks)-1 {
				return false
			}
		}
	}
	return true
}

func plainEdges(f api.Func) (l []api.Edge) {
	if !plainClosed(f) {
		return nil
	}
	for n, b := range f.Blocks {
		for arm, to := range plainTo(b.Term) {
			l = append(l, api.Edge{From: n, Arm: arm, To: to})
		}
	}
	return l
}

func plainInto(f api.Func, b int) (l []api.Edge) {
	for _, e := range plainEdges(f) {
		if e.To == b {
			l = append(l, e)
		}
	}
	return l
}

func plainFrom(f api.Func, b int) (l []api.Edge) {
	for _, e := range plainEdges(f) {
		if e.From == b {
			l = append(l, e)
		}
	}
	return l
}

func plainCritical(f api.Func) (l []api.Edge) {
	for _, e := range plainEdges(f) {
		if len(plainFrom(f, e.From)) > 1 && len(plainInto(f, e.To)) > 1 {
			l = append(l, e)
		}
	}
	return l
}

// plainOrder goes through blocks without calling itself: of each block on the way it holds which of its edges come next.
func plainOrder(f api.Func) (l []int) {
	if !plainClosed(f) {
		return nil
	}
	type stand struct {
		block int
		left  []int
	}
	begun := map[int]bool{0: true}
	way := []stand{{0, plainTo(f.Blocks[0].Term)}}
	for len(way) > 0 {
		top := &way[len(way)-1]
		if len(top.left) == 0 {
			l = append([]int{top.block}, l...)
			way = way[:len(way)-1]
			continue
		}
		to := top.left[0]
		top.left = top.left[1:]
		if !begun[to] {
			begun[to] = true
			way = append(way, stand{to, plainTo(f.Blocks[to].Term)})
		}
	}
	return l
}

// plainReached tries all edges, again and again, till no block more is reached.
func plainReached(f api.Func, from, not []int) (l []int) {
	if !plainClosed(f) {
		return nil
	}
	has := make([]bool, len(f.Blocks))
	for b := range has {
		has[b] = slices.Contains(from, b) && !slices.Contains(not, b)
	}
	for more := true; more; {
		more = false
		for _, e := range plainEdges(f) {
			if has[e.From] && !has[e.To] && !slices.Contains(not, e.To) {
				has[e.To], more = true, true
			}
		}
	}
	for b := range has {
		if has[b] {
			l = append(l, b)
		}
	}
	return l
}
