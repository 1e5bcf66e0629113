package read

import (
	"slices"
	"strconv"
	"strings"

	"intarsia/api"
	"intarsia/ir"
)

// canBeWritten says whether a function has a text.
func canBeWritten(f api.Func) bool {
	// Those, and only those, in which a part is wrong, or there are too many or too few of them, are told to have no size.
	if len(f.Blocks) > api.MaxBlocks || ir.Size(f) == 0 {
		return false
	}
	isFar := func(to int) bool { return to < 0 || to >= api.MaxBlocks }
	return !slices.ContainsFunc(f.Blocks, func(b api.Block) bool {
		return slices.ContainsFunc(ir.To(b.Term), isFar)
	})
}

// textOf is the text of a function that has one.
func textOf(f api.Func) string {
	var out strings.Builder
	out.WriteString(row(keyFun, vars(f.Params)))
	for n, b := range f.Blocks {
		out.WriteString(row(keyBlock, n))
		for _, i := range b.Ins {
			out.WriteString(rowOf(i))
		}
		out.WriteString(rowOfEnd(b.Term))
	}
	return out.String()
}

// vars are variables, one behind the other in a line.
type vars []int

// row is the line of words: of texts, numbers, vars.
func row(words ...any) string {
	var l []string
	for _, w := range words {
		switch x := w.(type) {
		case string:
			l = append(l, x)
		case int:
			l = append(l, strconv.Itoa(x))
		case vars:
			for _, v := range x {
				l = append(l, written(v))
			}
		}
	}
	return strings.Join(l, " ") + "\n"
}

// rowOf is the line of an instruction that is right.
func rowOf(i api.Ins) string {
	dst := vars{i.Dst}
	switch i.Op {
	case api.OpConst:
		return row(dst, toLeft, names[i.Op], i.Imm)
	case api.OpLoad:
		return row(dst, toLeft, names[i.Op], vars{i.A}, i.Imm)
	case api.OpStore:
		return row(keyStore, vars{i.A}, i.Imm, vars{i.B})
	case api.OpCall:
		if i.Dst == 0 {
			return row(keyCall, i.Callee, vars(i.Args))
		}
		return row(dst, toLeft, keyCall, i.Callee, vars(i.Args))
	case api.OpCopy:
		return row(dst, toLeft, vars{i.A})
	}
	return row(dst, toLeft, names[i.Op], vars{i.A, i.B})
}

// rowOfEnd is the line of an end that is right.
func rowOfEnd(t api.Term) string {
	switch t.Kind {
	case api.TermJump:
		return row(toRight, t.To[0])
	case api.TermBranch:
		return row(vars{t.A}, toRight, t.To[0], t.To[1])
	case api.TermReturn:
		return row(keyReturn, vars(ir.Needs(t)))
	}
	return row(keyTrap)
}
