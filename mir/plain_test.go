package mir

import (
	"slices"
	"strings"

	"intarsia/api"
	"intarsia/mach"
)

// row is what the chapter's table says of an Op.
type row struct{ has, reads, writes string }

var table = map[api.Op]row{
	api.OpConst: {"Dst Imm", "", "Dst"},
	api.OpAdd:   {"Dst A B", "A B", "Dst"}, api.OpSub: {"Dst A B", "A B", "Dst"}, api.OpMul: {"Dst A B", "A B", "Dst"},
	api.OpDiv: {"Dst A B", "A B", "Dst"}, api.OpAnd: {"Dst A B", "A B", "Dst"}, api.OpOr: {"Dst A B", "A B", "Dst"},
	api.OpXor: {"Dst A B", "A B", "Dst"}, api.OpLess: {"Dst A B", "A B", "Dst"}, api.OpSame: {"Dst A B", "A B", "Dst"},
	api.OpLoad: {"Dst A Imm", "A", "Dst"}, api.OpStore: {"A B Imm", "A B", ""}, api.OpCall: {"Callee Many", "Args", "Ret"},
	api.OpMove: {"Dst A", "A", "Dst"}, api.OpPut: {"A Slot", "A", "Slot"}, api.OpGet: {"Dst Slot", "Slot", "Dst"},
}

// endHas is what each Kind has: Ret is A, the machine's Ret or -1.
var endHas = map[api.TermKind]string{
	api.TermJump: "First", api.TermBranch: "A First Second", api.TermReturn: "Ret", api.TermTrap: "",
}

func named(names, name string) bool { return slices.Contains(strings.Fields(names), name) }

func within(n, least, most int) bool { return least <= n && n <= most }

// first is the first of these errors, in the chapter's order, that is among those that were found.
func first(found map[api.Errno]bool) api.Errno {
	for _, e := range []api.Errno{api.ErrArg, api.ErrReg, api.ErrSlot, api.ErrBlock} {
		if found[e] {
			return e
		}
	}
	return api.OK
}

func plainIns(m api.Machine, frame int, i api.Ins) api.Errno {
	r, known := table[i.Op]
	found := map[api.Errno]bool{api.ErrArg: !known || len(i.Args) > 0}
	// part notes an error unless what is named so fits, or is 0, where it is not had.
	part := func(name string, n, least, most int, e api.Errno) {
		if !named(r.has, name) {
			name, least, most, e = "", 0, 0, api.ErrArg
		}
		found[e] = found[e] || !within(n, least, most)
	}
	part("Dst", i.Dst, 0, m.Regs-1, api.ErrReg)
	part("A", i.A, 0, m.Regs-1, api.ErrReg)
	part("B", i.B, 0, m.Regs-1, api.ErrReg)
	if named(r.has, "Slot") {
		part("Slot", i.Imm, 0, frame-1, api.ErrSlot)
	} else {
		part("Imm", i.Imm, -1<<40, 1<<40, api.ErrArg)
	}
	part("Callee", i.Callee, 0, 99, api.ErrArg)
	part("Many", i.Many, 0, len(m.Args), api.ErrArg)
	return first(found)
}

func plainEnd(m api.Machine, blocks int, t api.Term) api.Errno {
	has, known := endHas[t.Kind]
	found := map[api.Errno]bool{api.ErrArg: !known}
	switch {
	case named(has, "A"):
		found[api.ErrReg] = !within(t.A, 0, m.Regs-1)
	case named(has, "Ret"):
		found[api.ErrReg] = t.A != m.Ret && t.A != -1
	default:
		found[api.ErrArg] = found[api.ErrArg] || t.A != 0
	}
	for n, name := range []string{"First", "Second"} {
		if named(has, name) {
			found[api.ErrBlock] = found[api.ErrBlock] || !within(t.To[n], 0, blocks-1)
		} else {
			found[api.ErrArg] = found[api.ErrArg] || t.To[n] != 0
		}
	}
	return first(found)
}

func plainRight(m api.Machine, t api.Target) api.Errno {
	if !mach.Right(m) {
		return api.ErrArg
	}
	long := !within(len(t.Blocks), 1, 200) || !within(t.Frame, 0, 400)
	for _, b := range t.Blocks {
		long = long || len(b.Ins) > 4000
	}
	if long {
		return api.ErrLong
	}
	var all []api.Errno
	for _, b := range t.Blocks {
		for _, i := range b.Ins {
			all = append(all, plainIns(m, t.Frame, i))
		}
		all = append(all, plainEnd(m, len(t.Blocks), b.Term))
	}
	all = append(slices.DeleteFunc(all, func(e api.Errno) bool { return e == api.OK }), api.OK)
	return all[0]
}

// places are those of an instruction's parts that are named so, in order.
func places(m api.Machine, i api.Ins, names string) (l []api.Loc) {
	for _, name := range strings.Fields(names) {
		switch name {
		case "Dst":
			l = append(l, reg(i.Dst))
		case "A":
			l = append(l, reg(i.A))
		case "B":
			l = append(l, reg(i.B))
		case "Ret":
			l = append(l, reg(m.Ret))
		case "Slot":
			l = append(l, slot(i.Imm))
		case "Args":
			for n, a := range m.Args {
				if n < i.Many {
					l = append(l, reg(a))
				}
			}
		}
	}
	return l
}

func plainReads(m api.Machine, i api.Ins) []api.Loc { return places(m, i, table[i.Op].reads) }

func plainWrites(m api.Machine, i api.Ins) []api.Loc { return places(m, i, table[i.Op].writes) }

func plainNeeds(t api.Term) []api.Loc {
	if has := endHas[t.Kind]; named(has, "A") || named(has, "Ret") && t.A != -1 {
		return []api.Loc{reg(t.A)}
	}
	return nil
}
