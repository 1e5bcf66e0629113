package mread

import (
	"strconv"
	"strings"

	"intarsia/api"
)

// Words that stand in lines of their own kind alone, and the letters of places' words.
const (
	keyTarget = "target"
	keyBlock  = "block"
	keyStore  = "store"
	keyCall   = "call"
	keyReturn = "return"
	keyTrap   = "trap"
	toRight   = "→"
	toLeft    = "←"

	letterReg  = "r"
	letterSlot = "s"
)

// nothing is A of a return that tells nothing.
const nothing = -1

// names are the words of the Ops from OpConst to OpLoad, each at its Op: those that stand behind an arrow to the left.
var names = [...]string{
	api.OpConst: "const", api.OpAdd: "add", api.OpSub: "sub", api.OpMul: "mul", api.OpDiv: "div", api.OpAnd: "and",
	api.OpOr: "or", api.OpXor: "xor", api.OpLess: "less", api.OpSame: "same", api.OpLoad: "load",
}

// opOf is the Op whose word that is; 0, if there is none.
func opOf(name string) api.Op {
	for o := api.OpConst; o <= api.OpLoad; o++ {
		if names[o] == name {
			return o
		}
	}
	return 0
}

// Places in a line, as words.
type (
	reg  int
	slot int
)

// written is a word that is a text, a place, or a number.
func written(word any) string {
	if s, ok := word.(string); ok {
		return s
	}
	if n, ok := word.(reg); ok {
		return numbered(letterReg, int(n))
	}
	if n, ok := word.(slot); ok {
		return numbered(letterSlot, int(n))
	}
	return strconv.Itoa(word.(int))
}

// numbered is a letter, and a number's digits.
func numbered(letter string, n int) string {
	return letter + strconv.Itoa(n)
}

// numberOf is the number below a limit that has that name, behind that letter, if there is one.
func numberOf(name, letter string, limit int) (int, bool) {
	n, err := strconv.Atoi(strings.TrimPrefix(name, letter))
	// Only what is written again the same has no noughts ahead.
	if err != nil || n < 0 || n >= limit || name != numbered(letter, n) {
		return 0, false
	}
	return n, true
}

func regOf(name string) (int, bool) { return numberOf(name, letterReg, api.MaxRegs) }

func slotOf(name string) (int, bool) { return numberOf(name, letterSlot, api.MaxSlots) }
