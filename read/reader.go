package read

import (
	"intarsia/api"
	"intarsia/line"
)

// reader gets a function's parts, one behind the other. What it gets once its cursor is broken counts for nothing.
type reader struct {
	*line.Cursor
}

func (r *reader) function() (f api.Func) {
	r.key(keyFun)
	f.Params = r.params()
	r.End()
	// There is one block at least.
	for n := 0; n == 0 || r.More(); n++ {
		if n == api.MaxBlocks {
			r.Fail(api.ErrLong)
			break
		}
		f.Blocks = append(f.Blocks, r.block(n))
	}
	return f
}

func (r *reader) block(n int) (b api.Block) {
	r.key(keyBlock)
	r.Num(n, n)
	r.End()
	for r.More() {
		part := r.part()
		i, isIns := part.(api.Ins)
		if !isIns {
			b.Term = part.(api.Term)
			r.End()
			return b
		}
		if len(b.Ins) == api.MaxIns {
			r.Fail(api.ErrLong)
		}
		b.Ins = append(b.Ins, i)
		r.End()
	}
	r.Fail(api.ErrWord)
	return b
}

// part gets the instruction, or the end, of a line.
func (r *reader) part() any {
	switch {
	case r.Key(keyStore):
		return api.Ins{Op: api.OpStore, A: r.variable(), Imm: r.imm(), B: r.variable()}
	case r.Key(keyCall):
		return r.call(0)
	case r.Key(keyReturn):
		return r.ret()
	case r.Key(keyTrap):
		return api.Term{Kind: api.TermTrap}
	case r.Is(toRight):
		return api.Term{Kind: api.TermJump, To: [2]int{r.to()}}
	}
	v := r.variable()
	if r.Is(toRight) {
		return api.Term{Kind: api.TermBranch, A: v, To: [2]int{r.to(), r.to()}}
	}
	r.Mark(toLeft)
	return r.value(v)
}

// value gets the instruction behind a variable and an arrow to the left.
func (r *reader) value(dst int) api.Ins {
	if r.Key(keyCall) {
		return r.call(dst)
	}
	o := opOf(r.Peek())
	if o == 0 {
		return api.Ins{Op: api.OpCopy, Dst: dst, A: r.variable()}
	}
	r.Name()
	switch o {
	case api.OpConst:
		return api.Ins{Op: o, Dst: dst, Imm: r.imm()}
	case api.OpLoad:
		return api.Ins{Op: o, Dst: dst, A: r.variable(), Imm: r.imm()}
	}
	return api.Ins{Op: o, Dst: dst, A: r.variable(), B: r.variable()}
}

// call gets what is behind a call's key.
func (r *reader) call(dst int) api.Ins {
	return api.Ins{Op: api.OpCall, Dst: dst, Callee: r.Num(0, api.MaxCallee), Args: r.args()}
}

// ret gets what is behind a return's key.
func (r *reader) ret() api.Term {
	t := api.Term{Kind: api.TermReturn}
	if !r.Ends() {
		t.A = r.variable()
	}
	return t
}

func (r *reader) params() (l []int) {
	var there [api.MaxVars + 1]bool
	for r.another(len(l)) {
		if there[variableOf(r.Peek())] {
			r.Fail(api.ErrWord)
		}
		v := r.variable()
		there[v] = true
		l = append(l, v)
	}
	return l
}

func (r *reader) args() (l []int) {
	for r.another(len(l)) {
		l = append(l, r.variable())
	}
	return l
}

// another says whether there is one more word in a line, behind so many variables.
func (r *reader) another(many int) bool {
	if many == api.MaxArgs && !r.Ends() {
		r.Fail(api.ErrLong)
	}
	return !r.Ends()
}

func (r *reader) key(name string) {
	if !r.Key(name) {
		r.Fail(api.ErrWord)
	}
}

// variable gets one; its word is gone over only if it is one, so that it breaks there.
func (r *reader) variable() int {
	v := variableOf(r.Peek())
	if v == 0 {
		r.Fail(api.ErrWord)
		return 0
	}
	r.Name()
	return v
}

func (r *reader) imm() int { return r.Num(-api.MaxImm, api.MaxImm) }

// to gets where an edge goes.
func (r *reader) to() int { return r.Num(0, api.MaxBlocks-1) }
