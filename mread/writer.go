package mread

import (
	"iter"
	"strings"

	"intarsia/api"
	"intarsia/mir"
)

// canBeWritten says whether a target has a text.
func canBeWritten(t api.Target) bool {
	if t.Frame < 0 || t.Frame > api.MaxSlots || len(t.Blocks) == 0 || len(t.Blocks) > api.MaxAll {
		return false
	}
	return mir.Right(widest(), widened(t)) == api.OK
}

// widest is a machine that has all that a text may tell of; but it returns register 0 alone.
func widest() api.Machine {
	m := api.Machine{Regs: api.MaxRegs, Ret: 0}
	for n := range api.MaxArgs {
		m.Args = append(m.Args, n)
	}
	return m
}

// widened is a target with as great a frame, as many blocks, as a text may tell of, that returns what the widest machine does: that is right just if the lines of t can be written.
func widened(t api.Target) api.Target {
	wide := api.Target{Frame: api.MaxSlots}
	for _, b := range t.Blocks {
		if b.Term.Kind == api.TermReturn && isReg(b.Term.A) {
			b.Term.A = 0
		}
		wide.Blocks = append(wide.Blocks, b)
	}
	for len(wide.Blocks) < api.MaxAll {
		wide.Blocks = append(wide.Blocks, api.Block{Term: api.Term{Kind: api.TermTrap}})
	}
	return wide
}

func isReg(n int) bool { return 0 <= n && n < api.MaxRegs }

// textOf is the text of a target whose lines can be written; of one that is too long no more than shows that it is.
func textOf(t api.Target) string {
	var out strings.Builder
	out.WriteString(row(keyTarget, t.Frame))
	for l := range lines(t.Blocks) {
		out.WriteString(rowOf(l))
		if out.Len() > api.MaxText {
			break
		}
	}
	return out.String()
}

// opening is the number of a block that begins.
type opening int

// lines tells what each line of blocks is: an opening, an instruction, an end.
func lines(blocks []api.Block) iter.Seq[any] {
	return func(yield func(any) bool) {
		for n, b := range blocks {
			if !yield(opening(n)) {
				return
			}
			for _, i := range b.Ins {
				if !yield(i) {
					return
				}
			}
			if !yield(b.Term) {
				return
			}
		}
	}
}

// row is the line of words.
func row(words ...any) string {
	var l []string
	for _, w := range words {
		l = append(l, written(w))
	}
	return strings.Join(l, " ") + "\n"
}

// rowOf is the line of what lines tells.
func rowOf(part any) string {
	if i, ok := part.(api.Ins); ok {
		return rowOfIns(i)
	}
	if t, ok := part.(api.Term); ok {
		return rowOfEnd(t)
	}
	return row(keyBlock, int(part.(opening)))
}

func rowOfIns(i api.Ins) string {
	switch i.Op {
	case api.OpConst:
		return row(reg(i.Dst), toLeft, names[i.Op], i.Imm)
	case api.OpLoad:
		return row(reg(i.Dst), toLeft, names[i.Op], reg(i.A), i.Imm)
	case api.OpStore:
		return row(keyStore, reg(i.A), i.Imm, reg(i.B))
	case api.OpCall:
		return row(keyCall, i.Callee, i.Many)
	case api.OpMove:
		return row(reg(i.Dst), toLeft, reg(i.A))
	case api.OpPut:
		return row(slot(i.Imm), toLeft, reg(i.A))
	case api.OpGet:
		return row(reg(i.Dst), toLeft, slot(i.Imm))
	}
	return row(reg(i.Dst), toLeft, names[i.Op], reg(i.A), reg(i.B))
}

func rowOfEnd(t api.Term) string {
	switch t.Kind {
	case api.TermJump:
		return row(toRight, t.To[0])
	case api.TermBranch:
		return row(reg(t.A), toRight, t.To[0], t.To[1])
	case api.TermReturn:
		if t.A == nothing {
			return row(keyReturn)
		}
		return row(keyReturn, reg(t.A))
	}
	return row(keyTrap)
}
