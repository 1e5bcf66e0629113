package ir

import (
	"intarsia/api"
)

// parts are those that an Op has.
type parts struct{ dst, a, b, imm bool }

// partsOf tells an Op's parts; of a call, and of what is no Op of a function, there are none.
func partsOf(o api.Op) (p parts) {
	switch o {
	case api.OpStore:
		p.a, p.b, p.imm = true, true, true
	case api.OpLoad:
		p.a = true
		fallthrough
	case api.OpConst:
		p.dst, p.imm = true, true
	case api.OpAdd, api.OpSub, api.OpMul, api.OpDiv, api.OpAnd, api.OpOr, api.OpXor, api.OpLess, api.OpSame:
		p.b = true
		fallthrough
	case api.OpCopy:
		p.dst, p.a = true, true
	}
	return p
}

// IsIns says whether an instruction is right.
func IsIns(i api.Ins) bool {
	if i.Op == api.OpCall {
		return isCall(i)
	}
	p := partsOf(i.Op)
	return p != parts{} && fits(p.dst, i.Dst) && fits(p.a, i.A) && fits(p.b, i.B) &&
		(isImm(i.Imm) && p.imm || i.Imm == 0) &&
		i.Callee == 0 && len(i.Args) == 0 && i.Many == 0
}

func isCall(i api.Ins) bool {
	return fits(i.Dst != 0, i.Dst) && 0 <= i.Callee && i.Callee <= api.MaxCallee &&
		len(i.Args) <= api.MaxArgs && areVars(i.Args...) &&
		i.A == 0 && i.B == 0 && i.Imm == 0 && i.Many == 0
}

// IsTerm says whether an end is.
func IsTerm(t api.Term) bool {
	switch t.Kind {
	case api.TermJump:
		return t.A == 0 && t.To[1] == 0
	case api.TermBranch:
		return areVars(t.A)
	case api.TermReturn:
		return fits(t.A != 0, t.A) && t.To == [2]int{}
	case api.TermTrap:
		return t.A == 0 && t.To == [2]int{}
	}
	return false
}

// fits says whether there is a variable where one is had, and 0 where none is.
func fits(had bool, v int) bool {
	if had {
		return areVars(v)
	}
	return v == 0
}

func areVars(vars ...int) bool {
	for _, v := range vars {
		if v < 1 || v > api.MaxVars {
			return false
		}
	}
	return true
}

func isImm(n int) bool {
	return -api.MaxImm <= n && n <= api.MaxImm
}

// given are those that are not 0, in order.
func given(vars ...int) (l []int) {
	for _, v := range vars {
		if v != 0 {
			l = append(l, v)
		}
	}
	return l
}

// shape is the error that a function has in its parts, whatever its edges and values: ErrLong, ErrArg, or OK.
func shape(f api.Func) api.Errno {
	switch {
	case isLong(f):
		return api.ErrLong
	case !areParams(f.Params...):
		return api.ErrArg
	}
	for _, b := range f.Blocks {
		if !isBlock(b) {
			return api.ErrArg
		}
	}
	return api.OK
}

func isLong(f api.Func) bool {
	if len(f.Blocks) == 0 || len(f.Blocks) > api.MaxAll || len(f.Params) > api.MaxArgs {
		return true
	}
	for _, b := range f.Blocks {
		if len(b.Ins) > api.MaxIns {
			return true
		}
	}
	return false
}

// areParams says whether these are variables that are all unlike.
func areParams(vars ...int) bool {
	var seen set
	for _, v := range vars {
		if !areVars(v) || seen.has(v) {
			return false
		}
		seen = seen.with(v)
	}
	return true
}

func isBlock(b api.Block) bool {
	for _, i := range b.Ins {
		if !IsIns(i) {
			return false
		}
	}
	return IsTerm(b.Term)
}
