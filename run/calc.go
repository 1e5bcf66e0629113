package run

import (
	"intarsia/api"
)

// Calc is what an Op makes of two values; false: a trap.
func Calc(o api.Op, a, b int) (int, bool) {
	switch o {
	case api.OpAdd:
		return a + b, true
	case api.OpSub:
		return a - b, true
	case api.OpMul:
		return a * b, true
	case api.OpDiv:
		if b == 0 {
			return 0, false
		}
		return a / b, true
	case api.OpAnd:
		return a & b, true
	case api.OpOr:
		return a | b, true
	case api.OpXor:
		return a ^ b, true
	case api.OpLess:
		return oneIf(a < b), true
	case api.OpSame:
		return oneIf(a == b), true
	}
	return 0, false
}

func oneIf(holds bool) int {
	if holds {
		return 1
	}
	return 0
}
