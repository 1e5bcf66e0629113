package mrun

import (
	"math"
	"slices"

	"intarsia/api"
	"intarsia/mir"
	"intarsia/run"
)

// given is what a run begins with.
type given struct {
	m                         api.Machine
	t                         api.Target
	args, mem, answers, first []int
}

// plain is a run told as the chapter does: where it stands is one of all instructions and ends in a row, each of which has its place in the row; registers and slots stand in rows of their own.
type plain struct {
	given
	run.Result
	regs, was [api.MaxRegs]*int
	slots     [api.MaxSlots]*int
	at        int
	took      int
	// lacks says whether what the step reads has no value somewhere.
	lacks bool
}

// row are all instructions and ends of a target.
func row(t api.Target) (l []spot) {
	for b := range t.Blocks {
		for i := range len(t.Blocks[b].Ins) + 1 {
			l = append(l, spot{b, i})
		}
	}
	return l
}

func plainBegin(g given) *plain {
	p := &plain{given: g}
	p.Mem = slices.Clone(g.mem)
	for n, r := range g.m.Saved {
		p.regs[r] = new(int)
		if n < len(g.first) {
			p.regs[r] = &g.first[n]
		}
	}
	for n := range g.args {
		p.regs[g.m.Args[n]] = &g.args[n]
	}
	for _, r := range g.m.Saved {
		p.was[r] = p.regs[r]
	}
	return p
}

// val is a register's value.
func (p *plain) val(r int) int { return p.what(p.regs[r]) }

func (p *plain) what(n *int) int {
	if n == nil {
		p.lacks = true
		return 0
	}
	return *n
}

func (p *plain) end(k api.EndKind, value int) { p.End, p.Value = k, value }

// step is one step, and says whether there was one.
func (p *plain) step() bool {
	if p.End != api.EndNone {
		return false
	}
	p.Steps++
	s := row(p.t)[p.at]
	b := p.t.Blocks[s.block]
	// What a step would do is found out on another one, so that of a step that is broken nothing is done.
	next := *p
	next.Mem, next.Calls = slices.Clone(p.Mem), slices.Clone(p.Calls)
	if s.ins < len(b.Ins) {
		next.ins(b.Ins[s.ins])
	} else {
		next.leave(b.Term)
	}
	if next.lacks {
		p.end(api.EndBroken, 0)
		return true
	}
	*p = next
	return true
}

func (p *plain) leave(t api.Term) {
	switch t.Kind {
	case api.TermReturn:
		value := 0
		if t.A != -1 {
			value = p.val(t.A)
		}
		p.end(api.EndReturn, value)
		for r := range p.m.Regs {
			if slices.Contains(p.m.Saved, r) && (p.regs[r] == nil || *p.regs[r] != *p.was[r]) {
				p.end(api.EndBroken, 0)
			}
		}
	case api.TermTrap:
		p.end(api.EndTrap, 0)
	default:
		arm := 0
		if t.Kind == api.TermBranch && p.val(t.A) == 0 {
			arm = 1
		}
		p.at = slices.Index(row(p.t), spot{t.To[arm], 0})
	}
}

func (p *plain) ins(i api.Ins) {
	was := *p
	switch n := 0; i.Op {
	case api.OpConst:
		p.regs[i.Dst] = &i.Imm
	case api.OpMove:
		n = p.val(i.A)
		p.regs[i.Dst] = &n
	case api.OpPut:
		n = p.val(i.A)
		p.slots[i.Imm] = &n
	case api.OpGet:
		n = p.what(p.slots[i.Imm])
		p.regs[i.Dst] = &n
	case api.OpLoad:
		if place := p.val(i.A) + i.Imm; place < 0 || place >= len(p.Mem) {
			p.end(api.EndTrap, 0)
		} else {
			n = p.Mem[place]
			p.regs[i.Dst] = &n
		}
	case api.OpStore:
		n = p.val(i.B)
		if place := p.val(i.A) + i.Imm; place < 0 || place >= len(p.Mem) {
			p.end(api.EndTrap, 0)
		} else {
			p.Mem[place] = n
		}
	case api.OpCall:
		p.call(i)
	default:
		a, b := p.val(i.A), p.val(i.B)
		n, is := run.Calc(i.Op, a, b)
		if !is {
			p.end(api.EndTrap, 0)
		} else {
			p.regs[i.Dst] = &n
		}
	}
	if p.End == was.End {
		p.at++
	}
}

func (p *plain) call(i api.Ins) {
	c := api.Call{Callee: i.Callee}
	for n := range i.Many {
		c.Args = append(c.Args, p.val(p.m.Args[n]))
	}
	p.Calls = append(p.Calls, c)
	if p.took == len(p.answers) {
		p.end(api.EndTrap, 0)
		return
	}
	for r := range p.m.Regs {
		if r == p.m.Ret {
			p.regs[r] = &p.answers[p.took]
		} else if !slices.Contains(p.m.Saved, r) {
			p.regs[r] = nil
		}
	}
	p.took++
}

// dice are numbers that look as if by chance, the same each time.
type dice uint64

func (d *dice) below(n int) int {
	*d = *d*6364136223846793005 + 1442695040888963407
	return int(uint64(*d)>>33) % n
}

func oneOf[T any](d *dice, l ...T) T { return l[d.below(len(l))] }

func (d *dice) number() int {
	return oneOf(d, 0, 0, 1, 1, 2, 3, -1, 5, -7, 64, math.MaxInt, math.MinInt, math.MinInt+1, 1<<40)
}

func (d *dice) imm() int {
	return oneOf(d, 0, 0, 0, 1, 1, 2, 3, -1, -1, -2, 7, 64, 1<<40, -1<<40)
}

func (d *dice) numbers(most int) (l []int) {
	for range d.below(most + 1) {
		l = append(l, d.number())
	}
	return l
}

// machines are right ones: with arguments in saved registers, with one in the register that is returned, with none, with the least that may be, with the most.
func machines() []api.Machine {
	return []api.Machine{
		usual, {Regs: 3, Args: []int{2, 0}, Ret: 1, Saved: []int{0, 2}}, {Regs: 5, Args: []int{0, 3, 4}, Ret: 0, Saved: []int{1, 4}}, {Regs: 2, Ret: 1}, {Regs: 1}, {Regs: 2, Args: []int{1}, Ret: 1, Saved: []int{0}}, great,
	}
}

func (d *dice) reg(m api.Machine) int {
	return oneOf(d, m.Regs-1, m.Ret, d.below(m.Regs), d.below(min(m.Regs, 4)))
}

func (d *dice) instruction(m api.Machine, frame int) api.Ins {
	a, b, c := d.reg(m), d.reg(m), d.reg(m)
	switch o := api.Op(1 + d.below(19)); o {
	case api.OpLoad:
		return load(a, b, d.imm())
	case api.OpStore:
		return store(a, d.imm(), b)
	case api.OpCall:
		return call(d.below(100), d.below(len(m.Args)+1))
	case api.OpMove:
		return move(a, b)
	case api.OpPut:
		return put(d.below(max(frame, 1)), a)
	case api.OpGet:
		return get(a, d.below(max(frame, 1)))
	case api.OpConst, api.OpCopy, 18, 19:
		return let(a, d.imm())
	default:
		return two(o, a, b, c)
	}
}

func (d *dice) ending(m api.Machine, blocks int) api.Term {
	switch d.below(8) {
	case 0, 1:
		return ret(m.Ret)
	case 2:
		return oneOf(d, ret(-1), stop())
	case 3:
		return jump(d.below(blocks))
	}
	return branch(d.reg(m), d.below(blocks), d.below(blocks))
}

// target is one that is right for a machine; it goes on saving what must be left as it was, and getting it back, more often than not.
func (d *dice) target(m api.Machine) api.Target {
	for {
		t := target(d.below(4))
		many := 1 + d.below(4)
		for b := range many {
			t.Blocks = append(t.Blocks, block(d.ending(m, many)))
			if b == 0 && d.below(4) > 0 {
				for r := range min(m.Regs, 5) {
					if !slices.Contains(m.Saved, r) {
						t.Blocks[b].Ins = append(t.Blocks[b].Ins, let(r, d.imm()))
					}
				}
			}
			for range d.below(5) {
				if i := d.instruction(m, t.Frame); d.below(3) == 0 || !slices.ContainsFunc(mir.Writes(m, i), func(l api.Loc) bool { return !l.Slot && slices.Contains(m.Saved, l.N) }) {
					t.Blocks[b].Ins = append(t.Blocks[b].Ins, i)
				}
			}
		}
		if mir.Right(m, t) == api.OK {
			return t
		}
	}
}

// beginning is a right target, and what it may be run with.
func (d *dice) beginning() given {
	m := oneOf(d, machines()...)
	g := given{m: m, t: d.target(m), mem: d.numbers(oneOf(d, 0, 1, 3, 4, 8, 64)), answers: d.numbers(6), first: d.numbers(len(m.Saved) + 1)}
	for range oneOf(d, len(m.Args), d.below(len(m.Args)+1)) {
		g.args = append(g.args, d.number())
	}
	return g
}
