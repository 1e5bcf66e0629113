package ir

import (
	"slices"
	"strings"

	"intarsia/api"
)

// What each Op, each end has, as the chapter's table says it.
var (
	opHas = map[api.Op]string{
		api.OpConst: "Dst Imm", api.OpAdd: "Dst A B", api.OpSub: "Dst A B", api.OpMul: "Dst A B", api.OpDiv: "Dst A B", api.OpAnd: "Dst A B",
		api.OpOr: "Dst A B", api.OpXor: "Dst A B", api.OpLess: "Dst A B", api.OpSame: "Dst A B", api.OpLoad: "Dst A Imm", api.OpStore: "A B Imm",
		api.OpCall: "Dst? Callee Args", api.OpCopy: "Dst A",
	}
	termHas = map[api.TermKind]string{api.TermJump: "First", api.TermBranch: "A First Second", api.TermReturn: "A?", api.TermTrap: ""}
)

// part is what a thing may have, by its name: whether it is as it may be, if it is had, and whether it is 0.
type part struct {
	name       string
	fits, none bool
}

func number(name string, n, least, most int) part {
	return part{name, least <= n && n <= most, n == 0}
}

func variable(name string, n int) part { return number(name, n, 1, 200) }

// just says whether of parts those fit that are had, with a ? perhaps, and all others are none.
func just(had string, parts ...part) bool {
	for _, p := range parts {
		switch l := strings.Fields(had); {
		case slices.Contains(l, p.name) && !p.fits, slices.Contains(l, p.name+"?") && !p.fits && !p.none:
			return false
		case !slices.Contains(l, p.name) && !slices.Contains(l, p.name+"?") && !p.none:
			return false
		}
	}
	return true
}

func plainIsIns(i api.Ins) bool {
	had, ok := opHas[i.Op]
	args := part{"Args", len(i.Args) <= 8, len(i.Args) == 0}
	for _, v := range i.Args {
		args.fits = args.fits && 1 <= v && v <= 200
	}
	return ok && just(had, variable("Dst", i.Dst), variable("A", i.A), variable("B", i.B), number("Imm", i.Imm, -1<<40, 1<<40), number("Callee", i.Callee, 0, 99), args, number("Many", i.Many, 0, 0))
}

func plainIsTerm(t api.Term) bool {
	had, ok := termHas[t.Kind]
	return ok && just(had, variable("A", t.A), part{"First", true, t.To[0] == 0}, part{"Second", true, t.To[1] == 0})
}

func plainReads(i api.Ins) (l []int) {
	if !plainIsIns(i) {
		return nil
	}
	if had := strings.Fields(opHas[i.Op]); slices.Contains(had, "A") && slices.Contains(had, "B") {
		return []int{i.A, i.B}
	} else if slices.Contains(had, "A") {
		return []int{i.A}
	}
	return i.Args
}

func plainNeeds(t api.Term) []int {
	if plainIsTerm(t) && (t.Kind == api.TermBranch || t.Kind == api.TermReturn && t.A != 0) {
		return []int{t.A}
	}
	return nil
}

func plainTo(t api.Term) []int {
	if plainIsTerm(t) {
		return t.To[:map[api.TermKind]int{api.TermJump: 1, api.TermBranch: 2}[t.Kind]]
	}
	return nil
}

// ways tells do each way from block 0 on, of at most so many blocks, where all edges go to blocks; as long as do says so.
func ways(f api.Func, most int, do func(way []int) bool) bool {
	var grow func(way []int) bool
	grow = func(way []int) bool {
		if !do(way) {
			return false
		}
		for _, to := range plainTo(f.Blocks[way[len(way)-1]].Term) {
			if len(way) < most && !grow(append(slices.Clone(way), to)) {
				return false
			}
		}
		return true
	}
	return grow([]int{0})
}

// sound says whether on a way nothing is read, or needed, that has no value.
func sound(f api.Func, way []int) bool {
	has := map[int]bool{}
	for _, v := range f.Params {
		has[v] = true
	}
	hasNot := func(v int) bool { return !has[v] }
	for _, b := range way {
		for _, i := range f.Blocks[b].Ins {
			if slices.ContainsFunc(plainReads(i), hasNot) {
				return false
			}
			has[i.Dst] = true
		}
		if slices.ContainsFunc(plainNeeds(f.Blocks[b].Term), hasNot) {
			return false
		}
	}
	return true
}

// plainShape is ErrLong, ErrArg, or OK.
func plainShape(f api.Func) api.Errno {
	long := len(f.Blocks) < 1 || len(f.Blocks) > 200 || len(f.Params) > 8
	wrong := false
	for n, p := range f.Params {
		wrong = wrong || p < 1 || p > 200 || slices.Index(f.Params, p) != n
	}
	for _, b := range f.Blocks {
		long = long || len(b.Ins) > 64
		wrong = wrong || !plainIsTerm(b.Term) || slices.ContainsFunc(b.Ins, func(i api.Ins) bool { return !plainIsIns(i) })
	}
	if long {
		return api.ErrLong
	} else if wrong {
		return api.ErrArg
	}
	return api.OK
}

// plainRight goes all ways: what may be without a value is so on a way that has no block twice.
func plainRight(f api.Func) api.Errno {
	if e := plainShape(f); e != api.OK {
		return e
	}
	for _, b := range f.Blocks {
		if slices.ContainsFunc(plainTo(b.Term), func(to int) bool { return to <= 0 || to >= len(f.Blocks) }) {
			return api.ErrBlock
		}
	}
	reached := map[int]bool{}
	good := true
	ways(f, len(f.Blocks), func(way []int) bool {
		reached[way[len(way)-1]] = true
		good = good && sound(f, way)
		return true
	})
	if len(reached) < len(f.Blocks) {
		return api.ErrBlock
	} else if !good {
		return api.ErrVar
	}
	return api.OK
}

func plainVars(f api.Func) (l []int) {
	if plainShape(f) != api.OK {
		return nil
	}
	l = append(l, f.Params...)
	for _, b := range f.Blocks {
		for _, i := range b.Ins {
			l = append(append(l, plainReads(i)...), i.Dst)
		}
		l = append(l, plainNeeds(b.Term)...)
	}
	slices.Sort(l)
	l = slices.Compact(l)
	return slices.DeleteFunc(l, func(v int) bool { return v == 0 })
}

func plainMost(f api.Func) (operands, args int) {
	if plainShape(f) != api.OK {
		return 0, 0
	}
	args = len(f.Params)
	for _, b := range f.Blocks {
		for _, i := range b.Ins {
			if i.Op == api.OpCall {
				args = max(args, len(i.Args))
			} else {
				operands = max(operands, len(plainReads(i)))
			}
		}
		operands = max(operands, len(plainNeeds(b.Term)))
	}
	return operands, args
}

func plainSize(f api.Func) (n int) {
	if plainShape(f) != api.OK {
		return 0
	}
	for _, b := range f.Blocks {
		n += len(b.Ins) + 1
	}
	return n
}
