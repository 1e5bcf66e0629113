package run

import (
	"math"
	"math/big"
	"slices"

	"intarsia/api"
	"intarsia/ir"
)

// plainCalc calculates with numbers of any size, and wraps what comes out.
func plainCalc(o api.Op, a, b int) (int, bool) {
	x, y, z := big.NewInt(int64(a)), big.NewInt(int64(b)), new(big.Int)
	said := map[bool]*big.Int{false: big.NewInt(0), true: big.NewInt(1)}
	switch {
	case o == api.OpAdd:
		z.Add(x, y)
	case o == api.OpSub:
		z.Sub(x, y)
	case o == api.OpMul:
		z.Mul(x, y)
	case o == api.OpDiv && b != 0:
		z.Quo(x, y)
	case o == api.OpAnd:
		z.And(x, y)
	case o == api.OpOr:
		z.Or(x, y)
	case o == api.OpXor:
		z.Xor(x, y)
	case o == api.OpLess:
		z = said[x.Cmp(y) < 0]
	case o == api.OpSame:
		z = said[x.Cmp(y) == 0]
	default:
		return 0, false
	}
	all := new(big.Int).Lsh(big.NewInt(1), 64)
	z.Mod(z, all)
	if z.Bit(63) == 1 {
		z.Sub(z, all)
	}
	return int(z.Int64()), true
}

// given is what a run begins with.
type given struct {
	f                  api.Func
	args, mem, answers []int
}

// plain is a run told as the chapter does: where it stands is one of all instructions and ends in a row, each of which has its place in the row.
type plain struct {
	given
	Result
	has  [202]*int
	at   int
	took int
	// unknown says whether something was read that had no value.
	unknown bool
}

// spot is a place in the row.
type spot struct{ block, ins int }

// row are all instructions and ends of a function.
func row(f api.Func) (l []spot) {
	for b := range f.Blocks {
		for i := range len(f.Blocks[b].Ins) + 1 {
			l = append(l, spot{b, i})
		}
	}
	return l
}

func plainBegin(g given) *plain {
	p := &plain{given: g}
	p.Mem = slices.Clone(g.mem)
	for n, v := range g.f.Params {
		p.has[v] = &g.args[n]
	}
	return p
}

func (p *plain) val(v int) int {
	if p.has[v] == nil {
		p.unknown = true
		return 0
	}
	return *p.has[v]
}

func (p *plain) end(k api.EndKind, value int) { p.End, p.Value = k, value }

// step is one step, and says whether there was one.
func (p *plain) step() bool {
	if p.End != api.EndNone {
		return false
	}
	p.Steps++
	s := row(p.f)[p.at]
	b := p.f.Blocks[s.block]
	if s.ins < len(b.Ins) {
		p.ins(b.Ins[s.ins])
		return true
	}
	switch t := b.Term; t.Kind {
	case api.TermReturn:
		value := 0
		if t.A != 0 {
			value = p.val(t.A)
		}
		p.end(api.EndReturn, value)
	case api.TermTrap:
		p.end(api.EndTrap, 0)
	default:
		arm := 0
		if t.Kind == api.TermBranch && p.val(t.A) == 0 {
			arm = 1
		}
		p.at = slices.Index(row(p.f), spot{t.To[arm], 0})
	}
	return true
}

func (p *plain) ins(i api.Ins) {
	n := 0
	switch i.Op {
	case api.OpConst:
		n = i.Imm
	case api.OpCopy:
		n = p.val(i.A)
	case api.OpLoad, api.OpStore:
		sum, _ := plainCalc(api.OpAdd, p.val(i.A), i.Imm)
		if sum < 0 || sum >= len(p.Mem) {
			p.end(api.EndTrap, 0)
			return
		}
		if i.Op == api.OpStore {
			p.Mem[sum] = p.val(i.B)
		}
		n = p.Mem[sum]
	case api.OpCall:
		c := api.Call{Callee: i.Callee}
		for _, v := range i.Args {
			c.Args = append(c.Args, p.val(v))
		}
		p.Calls = append(p.Calls, c)
		if p.took == len(p.answers) {
			p.end(api.EndTrap, 0)
			return
		}
		n = p.answers[p.took]
		p.took++
	default:
		is := false
		if n, is = plainCalc(i.Op, p.val(i.A), p.val(i.B)); !is {
			p.end(api.EndTrap, 0)
			return
		}
	}
	if i.Dst > 0 {
		p.has[i.Dst] = &n
	}
	p.at++
}

// dice are numbers that look as if by chance, the same each time.
type dice uint64

func (d *dice) below(n int) int {
	*d = *d*6364136223846793005 + 1442695040888963407
	return int(uint64(*d)>>33) % n
}

func oneOf[T any](d *dice, l ...T) T { return l[d.below(len(l))] }

func (d *dice) variable() int { return oneOf(d, 1, 2, 3, 200) }

func (d *dice) number() int {
	return oneOf(d, 0, 0, 1, 1, 2, 3, -1, 5, -7, 64, math.MaxInt, math.MinInt, math.MinInt+1, 1<<40)
}

func (d *dice) imm() int {
	return oneOf(d, 0, 0, 0, 1, 1, 2, 3, -1, -1, -2, 7, 64, 1<<40, -1<<40)
}

func (d *dice) numbers(most int) (l []int) {
	for range d.below(most + 1) {
		l = append(l, d.number())
	}
	return l
}

func (d *dice) instruction() api.Ins {
	a, b, c := d.variable(), d.variable(), d.variable()
	switch o := api.Op(1 + d.below(14)); o {
	case api.OpConst:
		return let(a, d.imm())
	case api.OpLoad:
		return load(a, b, d.imm())
	case api.OpStore:
		return store(a, d.imm(), b)
	case api.OpCall:
		return call(oneOf(d, 0, a), d.below(100), []int{b, c, b, c, a, a, b, c}[:d.below(9)]...)
	case api.OpCopy:
		return copyOf(a, b)
	default:
		return two(o, a, b, c)
	}
}

func (d *dice) ending(blocks int) api.Term {
	to := func() int { return 1 + d.below(max(blocks-1, 1)) }
	switch d.below(6) {
	case 0:
		return ret(oneOf(d, 0, d.variable()))
	case 1:
		return oneOf(d, ret(d.variable()), stop())
	case 2:
		return jump(to())
	}
	return branch(d.variable(), to(), to())
}

// function is one that is right.
func (d *dice) function() api.Func {
	for {
		f := fun([]int{200, 2, 1, 3}[:d.below(5)])
		many := 1 + d.below(5)
		for b := range many {
			f.Blocks = append(f.Blocks, block(d.ending(many)))
			if b == 0 && d.below(4) > 0 {
				f.Blocks[0].Ins = []api.Ins{let(1, d.imm()), let(2, d.imm()), let(3, d.imm()), let(200, d.imm())}[d.below(4):]
			}
			for range d.below(5) {
				f.Blocks[b].Ins = append(f.Blocks[b].Ins, d.instruction())
			}
		}
		if ir.Right(f) == api.OK {
			return f
		}
	}
}

// beginning is a right function, and what it may be run with.
func (d *dice) beginning() given {
	g := given{f: d.function(), mem: d.numbers(oneOf(d, 0, 1, 3, 4, 8, 64)), answers: d.numbers(6)}
	for range g.f.Params {
		g.args = append(g.args, d.number())
	}
	return g
}
