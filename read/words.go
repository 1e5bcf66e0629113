package read

import (
	"strconv"
	"strings"

	"intarsia/api"
)

// Words that stand in lines of their own kind alone.
const (
	keyFun    = "fun"
	keyBlock  = "block"
	keyStore  = "store"
	keyCall   = "call"
	keyReturn = "return"
	keyTrap   = "trap"
	toRight   = "→"
	toLeft    = "←"
)

// names are the words of the Ops from OpConst to OpLoad, each at its Op: those that stand behind an arrow to the left alone.
var names = [...]string{
	api.OpConst: "const", api.OpAdd: "add", api.OpSub: "sub", api.OpMul: "mul", api.OpDiv: "div", api.OpAnd: "and",
	api.OpOr: "or", api.OpXor: "xor", api.OpLess: "less", api.OpSame: "same", api.OpLoad: "load",
}

// opOf is the Op whose word that is; 0, if there is none.
func opOf(name string) api.Op {
	for o := api.OpConst; o <= api.OpLoad; o++ {
		if names[o] == name {
			return o
		}
	}
	return 0
}

// written is a variable's word.
func written(v int) string {
	return "v" + strconv.Itoa(v)
}

// variableOf is the variable whose word that is; 0, if there is none.
func variableOf(name string) int {
	v, err := strconv.Atoi(strings.TrimPrefix(name, "v"))
	// Only what is written again the same has no noughts ahead.
	if err != nil || v < 1 || v > api.MaxVars || name != written(v) {
		return 0
	}
	return v
}
