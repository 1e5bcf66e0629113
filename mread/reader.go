package mread

import (
	"intarsia/api"
	"intarsia/line"
)

// reader gets a target's parts, one behind the other. What it gets once its cursor is broken counts for nothing.
type reader struct {
	*line.Cursor
}

func (r *reader) target() (t api.Target) {
	r.key(keyTarget)
	t.Frame = r.Num(0, api.MaxSlots)
	r.End()
	// There is one block at least.
	for n := 0; n == 0 || r.More(); n++ {
		if n == api.MaxAll {
			r.Fail(api.ErrLong)
			break
		}
		t.Blocks = append(t.Blocks, r.block(n))
	}
	return t
}

func (r *reader) block(n int) (b api.Block) {
	r.key(keyBlock)
	r.Num(n, n)
	r.End()
	for r.More() {
		part := r.part()
		i, isIns := part.(api.Ins)
		if !isIns {
			b.Term = part.(api.Term)
			r.End()
			return b
		}
		if len(b.Ins) == api.MaxTarget {
			r.Fail(api.ErrLong)
		}
		b.Ins = append(b.Ins, i)
		r.End()
	}
	r.Fail(api.ErrWord)
	return b
}

// part gets the instruction, or the end, of a line.
func (r *reader) part() any {
	switch {
	case r.Key(keyStore):
		return api.Ins{Op: api.OpStore, A: r.reg(), Imm: r.imm(), B: r.reg()}
	case r.Key(keyCall):
		return api.Ins{Op: api.OpCall, Callee: r.Num(0, api.MaxCallee), Many: r.Num(0, api.MaxArgs)}
	case r.Key(keyReturn):
		return api.Term{Kind: api.TermReturn, A: r.told()}
	case r.Key(keyTrap):
		return api.Term{Kind: api.TermTrap}
	case r.Is(toRight):
		return api.Term{Kind: api.TermJump, To: [2]int{r.to()}}
	}
	if n, ok := r.slot(); ok {
		r.Mark(toLeft)
		return api.Ins{Op: api.OpPut, Imm: n, A: r.reg()}
	}
	n := r.reg()
	if r.Is(toRight) {
		return api.Term{Kind: api.TermBranch, A: n, To: [2]int{r.to(), r.to()}}
	}
	r.Mark(toLeft)
	return r.value(n)
}

// value gets the instruction behind a register and an arrow to the left.
func (r *reader) value(dst int) api.Ins {
	if n, ok := r.slot(); ok {
		return api.Ins{Op: api.OpGet, Dst: dst, Imm: n}
	}
	o := opOf(r.Peek())
	if o == 0 {
		return api.Ins{Op: api.OpMove, Dst: dst, A: r.reg()}
	}
	r.Name()
	switch o {
	case api.OpConst:
		return api.Ins{Op: o, Dst: dst, Imm: r.imm()}
	case api.OpLoad:
		return api.Ins{Op: o, Dst: dst, A: r.reg(), Imm: r.imm()}
	}
	return api.Ins{Op: o, Dst: dst, A: r.reg(), B: r.reg()}
}

// told gets the register that is behind a return's key, if one is there.
func (r *reader) told() int {
	if r.Ends() {
		return nothing
	}
	return r.reg()
}

func (r *reader) key(name string) {
	if !r.Key(name) {
		r.Fail(api.ErrWord)
	}
}

// reg gets a register; its word is gone over only if it is one, so that it breaks there.
func (r *reader) reg() int {
	n, ok := regOf(r.Peek())
	if !ok {
		r.Fail(api.ErrWord)
		return 0
	}
	r.Name()
	return n
}

// slot gets a slot, if one is next.
func (r *reader) slot() (int, bool) {
	n, ok := slotOf(r.Peek())
	if ok {
		r.Name()
	}
	return n, ok
}

func (r *reader) imm() int { return r.Num(-api.MaxImm, api.MaxImm) }

// to gets where an edge goes.
func (r *reader) to() int { return r.Num(0, api.MaxAll-1) }
