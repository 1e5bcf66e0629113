package mir

import (
	"intarsia/api"
)

// isSmall says whether a target has no more, and no fewer, of anything than may be.
func isSmall(t api.Target) bool {
	if len(t.Blocks) == 0 || len(t.Blocks) > api.MaxAll || t.Frame < 0 || t.Frame > api.MaxSlots {
		return false
	}
	for _, b := range t.Blocks {
		if len(b.Ins) > api.MaxTarget {
			return false
		}
	}
	return true
}

// ofIns is an instruction's error, for a right machine, in a frame of so many slots.
func ofIns(m api.Machine, frame int, i api.Ins) api.Errno {
	p := partsOf(i.Op)
	switch {
	case !isIns(m, p, i):
		return api.ErrArg
	case !areBelow(m.Regs, i.Dst, i.A, i.B): // what it has not is 0, and that is a register
		return api.ErrReg
	case p.have(partFrom|partInto) && !areBelow(frame, i.Imm):
		return api.ErrSlot
	}
	return api.OK
}

// isIns says whether an instruction has just these parts, wherever its registers and its slot are.
func isIns(m api.Machine, p parts, i api.Ins) bool {
	return p != 0 &&
		(p.have(partDst) || i.Dst == 0) &&
		(p.have(partA) || i.A == 0) &&
		(p.have(partB) || i.B == 0) &&
		(p.have(partFrom|partInto) || p.have(partImm) && isImm(i.Imm) || i.Imm == 0) &&
		(p.have(partCall) && isCall(m, i) || i.Callee == 0 && i.Many == 0) &&
		len(i.Args) == 0
}

func isImm(n int) bool {
	return -api.MaxImm <= n && n <= api.MaxImm
}

// isCall says whether what a call has may be.
func isCall(m api.Machine, i api.Ins) bool {
	return areBelow(api.MaxCallee+1, i.Callee) && areBelow(len(m.Args)+1, i.Many)
}

// ofEnd is an end's error, for a right machine, among blocks of which one is there, at least.
func ofEnd(m api.Machine, areBlocks func(numbers ...int) bool, t api.Term) api.Errno {
	switch {
	case !isEnd(t):
		return api.ErrArg
	case !readsWell(m, t):
		return api.ErrReg
	case !areBlocks(t.To[0], t.To[1]): // where it does not go stands 0, and that is a block
		return api.ErrBlock
	}
	return api.OK
}

// isEnd says whether an end has just what its Kind has, wherever its register and its blocks are.
func isEnd(t api.Term) bool {
	switch t.Kind {
	case api.TermJump:
		return t.A == 0 && t.To[1] == 0
	case api.TermBranch:
		return true
	case api.TermReturn:
		return t.To == [2]int{}
	case api.TermTrap:
		return t.A == 0 && t.To == [2]int{}
	}
	return false
}

// readsWell says whether an end reads a register that it may, if any.
func readsWell(m api.Machine, t api.Term) bool {
	if t.Kind == api.TermReturn {
		return t.A == m.Ret || t.A == nothing
	}
	return areBelow(m.Regs, t.A)
}
