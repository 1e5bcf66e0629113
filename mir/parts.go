package mir

import (
	"intarsia/api"
)

// nothing is A of a return that reads none.
const nothing = -1

// parts are those that an Op has, of each a bit.
type parts int

const (
	partDst  parts = 1 << iota // a register that is written
	partA                      // one that is read
	partB                      // one more, behind A
	partImm                    // a number
	partFrom                   // Imm, a slot that is read
	partInto                   // Imm, a slot that is written
	partCall                   // Callee and Many
)

// opHas is what each Op has: nothing, if it is none of a target.
var opHas = [...]parts{
	api.OpConst: partDst | partImm,
	api.OpAdd:   partDst | partA | partB,
	api.OpSub:   partDst | partA | partB,
	api.OpMul:   partDst | partA | partB,
	api.OpDiv:   partDst | partA | partB,
	api.OpAnd:   partDst | partA | partB,
	api.OpOr:    partDst | partA | partB,
	api.OpXor:   partDst | partA | partB,
	api.OpLess:  partDst | partA | partB,
	api.OpSame:  partDst | partA | partB,
	api.OpLoad:  partDst | partA | partImm,
	api.OpStore: partA | partB | partImm,
	api.OpCall:  partCall,
	api.OpMove:  partDst | partA,
	api.OpPut:   partA | partInto,
	api.OpGet:   partDst | partFrom,
}

func partsOf(o api.Op) parts {
	if !areBelow(len(opHas), int(o)) {
		return 0
	}
	return opHas[o]
}

// have says whether one of these is among them.
func (p parts) have(these parts) bool { return p&these != 0 }

// registers are places, of registers.
func registers(numbers ...int) (l []api.Loc) {
	for _, n := range numbers {
		l = append(l, api.Loc{N: n})
	}
	return l
}

// areBelow says whether numbers are from 0 to below one.
func areBelow(limit int, numbers ...int) bool {
	for _, n := range numbers {
		if n < 0 || n >= limit {
			return false
		}
	}
	return true
}
