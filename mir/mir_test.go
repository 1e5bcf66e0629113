package mir

import (
	"math"
	"reflect"
	"slices"
	"testing"

	"intarsia/api"
)

func reg(n int) api.Loc  { return api.Loc{N: n} }
func slot(n int) api.Loc { return api.Loc{Slot: true, N: n} }

func regs(l ...int) (all []api.Loc) {
	for _, n := range l {
		all = append(all, reg(n))
	}
	return all
}

func let(d, n int) api.Ins              { return api.Ins{Op: api.OpConst, Dst: d, Imm: n} }
func two(o api.Op, d, a, b int) api.Ins { return api.Ins{Op: o, Dst: d, A: a, B: b} }
func load(d, a, n int) api.Ins          { return api.Ins{Op: api.OpLoad, Dst: d, A: a, Imm: n} }
func store(a, n, b int) api.Ins         { return api.Ins{Op: api.OpStore, A: a, B: b, Imm: n} }
func call(callee, many int) api.Ins     { return api.Ins{Op: api.OpCall, Callee: callee, Many: many} }
func move(d, a int) api.Ins             { return api.Ins{Op: api.OpMove, Dst: d, A: a} }
func put(s, a int) api.Ins              { return api.Ins{Op: api.OpPut, A: a, Imm: s} }
func get(d, s int) api.Ins              { return api.Ins{Op: api.OpGet, Dst: d, Imm: s} }

func jump(to int) api.Term        { return api.Term{Kind: api.TermJump, To: [2]int{to}} }
func branch(a, x, y int) api.Term { return api.Term{Kind: api.TermBranch, A: a, To: [2]int{x, y}} }
func ret(a int) api.Term          { return api.Term{Kind: api.TermReturn, A: a} }
func trap() api.Term              { return api.Term{Kind: api.TermTrap} }

func block(t api.Term, l ...api.Ins) api.Block { return api.Block{Ins: l, Term: t} }

func target(frame int, l ...api.Block) api.Target { return api.Target{Frame: frame, Blocks: l} }

// chain is a target of that many blocks, each of which goes to the next one.
func chain(many int) (t api.Target) {
	for b := 1; b < many; b++ {
		t.Blocks = append(t.Blocks, block(jump(b)))
	}
	t.Blocks = append(t.Blocks, block(ret(-1)))
	return t
}

// upTo are so many numbers, from 0 on.
func upTo(many int) (l []int) {
	for n := range many {
		l = append(l, n)
	}
	return l
}

// usual has registers of all kinds, small has the least that may be, great the most.
var (
	usual = api.Machine{Regs: 4, Args: []int{3, 1}, Ret: 0, Saved: []int{2}}
	small = api.Machine{Regs: 1}
	great = api.Machine{Regs: 64, Args: []int{63, 0, 7, 6, 5, 4, 3, 2}, Ret: 62, Saved: []int{60, 61, 63}}
)

func wrongMachines() []api.Machine {
	return []api.Machine{
		{}, {Regs: -1}, {Regs: 65}, {Regs: math.MaxInt}, {Regs: 2, Ret: 2}, {Regs: 2, Ret: -1}, {Regs: 2, Args: []int{1, 1}}, {Regs: 2, Args: []int{2}}, {Regs: 2, Args: []int{-1}}, {Regs: 20, Args: upTo(9)},
		{Regs: 4, Saved: []int{2, 1}}, {Regs: 4, Saved: []int{0}}, {Regs: 4, Saved: []int{4}}, {Regs: 2, Args: make([]int, 1<<20)},
	}
}

// told fails unless a target's error is that.
func told(t *testing.T, m api.Machine, x api.Target, want api.Errno) {
	t.Helper()
	if e := Right(m, x); e != want {
		t.Errorf("%v, %v: %d, not %d", m, x, e, want)
	}
}

// toldOf fails unless an instruction's error is that, in a frame of two slots, alone, and in the last block too.
func toldOf(t *testing.T, m api.Machine, i api.Ins, want api.Errno) {
	t.Helper()
	told(t, m, target(2, block(trap(), i)), want)
	told(t, m, target(2, block(jump(1), let(0, 1)), block(ret(-1), let(0, 1), i)), want)
}

// toldOfEnd fails unless an end's error is that, in the first of three blocks, and in the last one.
func toldOfEnd(t *testing.T, m api.Machine, e api.Term, want api.Errno) {
	t.Helper()
	told(t, m, target(0, block(e), block(trap()), block(trap())), want)
	told(t, m, target(0, block(jump(2)), block(trap()), block(e, let(0, 1))), want)
}

// P6.1

func TestInserted(t *testing.T) {
	for o := api.Op(-40); o < 60; o++ {
		if Inserted(o) != (o == 15 || o == 16 || o == 17) {
			t.Errorf("%d: %v", o, Inserted(o))
		}
	}
	if !Inserted(api.OpMove) || !Inserted(api.OpPut) || !Inserted(api.OpGet) || Inserted(api.OpCopy) || Inserted(math.MaxInt) || Inserted(math.MinInt) {
		t.Error("an Op")
	}
}

func TestRightTargets(t *testing.T) {
	all := target(2,
		block(branch(3, 1, 2), let(0, -9), two(api.OpAdd, 1, 2, 3), two(api.OpSub, 3, 3, 3), two(api.OpMul, 0, 0, 1), two(api.OpDiv, 1, 0, 3)),
		block(jump(0), two(api.OpAnd, 1, 2, 3), two(api.OpOr, 1, 2, 3), two(api.OpXor, 1, 2, 3), two(api.OpLess, 1, 2, 3), two(api.OpSame, 1, 2, 3), load(1, 2, 3), store(3, -2, 1)),
		block(jump(3), call(99, 2), call(0, 0), move(3, 2), move(1, 1), put(1, 3), get(2, 0)),
		block(branch(0, 4, 4)), block(ret(0)), block(ret(-1)), block(trap()),
	)
	told(t, usual, all, api.OK)
	told(t, great, target(400, block(ret(62), get(63, 399), put(0, 63), call(99, 8), move(62, 63))), api.OK)
	told(t, small, target(0, block(jump(0))), api.OK)
	told(t, small, target(0, block(ret(0), []api.Ins{}...)), api.OK)
	// The chapter's example.
	two := api.Machine{Regs: 2}
	told(t, two, target(1, block(ret(0), put(0, 1), get(0, 0))), api.OK)
	told(t, two, target(1, block(ret(0), put(0, 1), get(0, 1))), api.ErrSlot)
}

func TestMachinesThatAreNotRight(t *testing.T) {
	full := block(trap(), make([]api.Ins, 4001)...)
	for _, m := range wrongMachines() {
		for _, x := range []api.Target{{}, target(0, block(trap())), target(-1, block(trap())), target(1, block(trap(), put(5, 9))), chain(201), target(0, full)} {
			if e := Right(m, x); e != api.ErrArg {
				t.Errorf("%v: %d", m.Regs, e)
			}
		}
	}
}

func TestMoreThanMayBe(t *testing.T) {
	for many := 1; many <= 200; many++ {
		told(t, usual, chain(many), api.OK)
	}
	told(t, usual, target(0), api.ErrLong)
	told(t, usual, target(0, []api.Block{}...), api.ErrLong)
	row := func(many int) (l []api.Ins) {
		for range many {
			l = append(l, move(0, 1))
		}
		return l
	}
	for n, x := range []struct {
		t api.Target
		e api.Errno
	}{
		{chain(201), api.ErrLong}, {api.Target{Blocks: make([]api.Block, 1<<20)}, api.ErrLong}, {target(0, block(trap(), row(4000)...)), api.OK}, {target(0, block(trap(), row(4001)...)), api.ErrLong},
		{target(0, block(jump(1), row(4000)...), block(jump(2), row(3999)...), block(trap(), row(4000)...)), api.OK}, {target(0, block(jump(1), row(4000)...), block(trap(), row(4001)...)), api.ErrLong}, {target(0, block(trap(), make([]api.Ins, 1<<20)...)), api.ErrLong},
		{target(-1, block(trap())), api.ErrLong}, {target(0, block(trap())), api.OK}, {target(400, block(trap())), api.OK}, {target(401, block(trap())), api.ErrLong}, {target(math.MinInt, block(trap())), api.ErrLong}, {target(math.MaxInt, block(trap())), api.ErrLong},
		// ErrLong is told ahead of all that an instruction, an end may tell, wherever it stands.
		{target(-1, block(api.Term{}, api.Ins{})), api.ErrLong}, {target(401, block(jump(7), put(401, 0))), api.ErrLong}, {target(0, block(api.Term{}, move(9, 9)), block(trap(), row(4001)...)), api.ErrLong}, {target(0, block(trap(), make([]api.Ins, 4001)...)), api.ErrLong}, {api.Target{Blocks: make([]api.Block, 201)}, api.ErrLong},
		{target(0, block(trap(), make([]api.Ins, 4000)...)), api.ErrArg}, {api.Target{Blocks: make([]api.Block, 200)}, api.ErrArg},
	} {
		if e := Right(usual, x.t); e != x.e {
			t.Errorf("%d: %d, not %d", n, e, x.e)
		}
	}
}

// Of all blocks that may be, of all instructions that may be, the last end, and the last instruction, are asked too.
func TestTheGreatestTarget(t *testing.T) {
	x := chain(200)
	for b := range x.Blocks {
		for range 4000 {
			x.Blocks[b].Ins = append(x.Blocks[b].Ins, two(api.OpAdd, 63, 62, 61))
		}
	}
	if e := Right(great, x); e != api.OK || Size(x) != 200*4001 {
		t.Error(e, Size(x))
	}
	x.Blocks[199].Term = ret(0)
	if e := Right(great, x); e != api.ErrReg {
		t.Error(e)
	}
	x.Blocks[199].Ins[3999] = put(0, 1)
	if e := Right(great, x); e != api.ErrSlot {
		t.Error(e)
	}
}

func TestOpsThatAreNone(t *testing.T) {
	for _, o := range []api.Op{api.OpCopy, 0, -1, 18, 19, 31, 63, 64, math.MaxInt, math.MinInt} {
		for _, i := range []api.Ins{{}, {Dst: 1, A: 2}, {Dst: 1, A: 1, B: 1, Imm: 1}, {Dst: 9, A: -1}, {Imm: 9}, {Callee: 1, Many: 1}} {
			i.Op = o
			toldOf(t, usual, i, api.ErrArg)
			if len(Reads(usual, i)) != 0 || len(Writes(usual, i)) != 0 {
				t.Errorf("%v: %v, %v", i, Reads(usual, i), Writes(usual, i))
			}
		}
	}
	for _, k := range []api.TermKind{0, -1, 5, 6, 64, math.MaxInt, math.MinInt} {
		for _, e := range []api.Term{{}, {A: -1}, {A: 1}, {A: 9, To: [2]int{1, 1}}, {To: [2]int{-1, 9}}} {
			e.Kind = k
			toldOfEnd(t, usual, e, api.ErrArg)
			if len(Needs(e)) != 0 {
				t.Errorf("%v: %v", e, Needs(e))
			}
		}
	}
}

// each is a right instruction of each Op, in a frame of two slots, with what it has not.
var each = []struct {
	i      api.Ins
	hasNot []string
}{
	{let(1, 5), []string{"A", "B", "Callee", "Args", "Many"}}, {load(1, 2, 5), []string{"B", "Callee", "Args", "Many"}}, {store(1, 5, 2), []string{"Dst", "Callee", "Args", "Many"}}, {call(5, 1), []string{"Dst", "A", "B", "Imm", "Args"}},
	{move(1, 2), []string{"B", "Imm", "Callee", "Args", "Many"}}, {put(1, 2), []string{"Dst", "B", "Callee", "Args", "Many"}}, {get(1, 1), []string{"A", "B", "Callee", "Args", "Many"}},
	{two(api.OpAdd, 1, 2, 3), []string{"Imm", "Callee", "Args", "Many"}}, {two(api.OpSub, 1, 2, 3), []string{"Imm", "Callee", "Args", "Many"}}, {two(api.OpMul, 1, 2, 3), []string{"Imm", "Callee", "Args", "Many"}},
	{two(api.OpDiv, 1, 2, 3), []string{"Imm", "Callee", "Args", "Many"}}, {two(api.OpAnd, 1, 2, 3), []string{"Imm", "Callee", "Args", "Many"}}, {two(api.OpOr, 1, 2, 3), []string{"Imm", "Callee", "Args", "Many"}},
	{two(api.OpXor, 1, 2, 3), []string{"Imm", "Callee", "Args", "Many"}}, {two(api.OpLess, 1, 2, 3), []string{"Imm", "Callee", "Args", "Many"}}, {two(api.OpSame, 1, 2, 3), []string{"Imm", "Callee", "Args", "Many"}},
}

// part is where an instruction has what is named so.
func part(i *api.Ins, name string) *int {
	return map[string]*int{"Dst": &i.Dst, "A": &i.A, "B": &i.B, "Imm": &i.Imm, "Callee": &i.Callee, "Many": &i.Many}[name]
}

func TestWhatAnOpHasNot(t *testing.T) {
	for _, x := range each {
		toldOf(t, usual, x.i, api.OK)
		for _, name := range x.hasNot {
			i := x.i
			if name == "Args" {
				i.Args = []int{}
				toldOf(t, usual, i, api.OK)
				for _, l := range [][]int{{0}, {1}, {1, 2, 3}} {
					i.Args = l
					toldOf(t, usual, i, api.ErrArg)
				}
				continue
			}
			for _, n := range []int{1, -1, 2, 3, 1 << 40, math.MaxInt, math.MinInt} {
				*part(&i, name) = n
				toldOf(t, usual, i, api.ErrArg)
			}
		}
	}
}

func TestNumbers(t *testing.T) {
	for _, n := range []int{-1 << 40, -1<<40 + 1, -1, 0, 1, 1<<40 - 1, 1 << 40} {
		for _, i := range []api.Ins{let(1, n), load(1, 2, n), store(1, n, 2)} {
			toldOf(t, usual, i, api.OK)
		}
	}
	for _, n := range []int{-1<<40 - 1, 1<<40 + 1, math.MinInt, math.MaxInt} {
		for _, i := range []api.Ins{let(1, n), load(1, 2, n), store(1, n, 2)} {
			toldOf(t, usual, i, api.ErrArg)
		}
	}
	for callee := -2; callee <= 102; callee++ {
		want := api.OK
		if callee < 0 || callee > 99 {
			want = api.ErrArg
		}
		toldOf(t, usual, call(callee, 1), want)
	}
	for _, callee := range []int{math.MinInt, math.MaxInt, 1 << 40} {
		toldOf(t, usual, call(callee, 1), api.ErrArg)
	}
}

// As many arguments as the machine has, and one more, of each number of them.
func TestManyOfEachMachine(t *testing.T) {
	for args := 0; args <= 8; args++ {
		m := api.Machine{Regs: 64, Args: upTo(args), Ret: 63}
		for many := -2; many <= 11; many++ {
			want := api.OK
			if many < 0 || many > args {
				want = api.ErrArg
			}
			toldOf(t, m, call(1, many), want)
		}
		for _, many := range []int{math.MinInt, math.MaxInt} {
			toldOf(t, m, call(1, many), api.ErrArg)
		}
	}
}

// Each register that an Op, an end has, of machines of each number of registers.
func TestEachRegister(t *testing.T) {
	names := []string{"Dst", "A", "B"}
	for _, m := range []int{1, 2, 3, 4, 5, 8, 63, 64} {
		m := api.Machine{Regs: m}
		for _, n := range []int{-1, 0, 1, m.Regs - 1, m.Regs, m.Regs + 1, 64, math.MinInt, math.MaxInt} {
			want := api.ErrReg
			if 0 <= n && n < m.Regs {
				want = api.OK
			}
			for _, x := range each {
				i := x.i
				i.Dst, i.A, i.B, i.Many = 0, 0, 0, 0
				for _, name := range names {
					if slices.Contains(x.hasNot, name) {
						continue
					}
					i := i
					*part(&i, name) = n
					toldOf(t, m, i, want)
				}
			}
			toldOfEnd(t, m, branch(n, 1, 2), want)
		}
	}
}

func TestEachSlot(t *testing.T) {
	for _, frame := range []int{0, 1, 2, 3, 399, 400} {
		for _, n := range []int{-1, 0, 1, frame - 1, frame, frame + 1, 400, 1 << 40, 1<<40 + 1, math.MinInt, math.MaxInt} {
			want := api.ErrSlot
			if 0 <= n && n < frame {
				want = api.OK
			}
			told(t, usual, target(frame, block(trap(), put(n, 3))), want)
			told(t, usual, target(frame, block(trap(), get(3, n))), want)
		}
	}
}

func TestReturns(t *testing.T) {
	for _, m := range []api.Machine{usual, small, great, {Regs: 4, Ret: 3}} {
		for n := -3; n <= 66; n++ {
			want := api.ErrReg
			if n == m.Ret || n == -1 {
				want = api.OK
			}
			toldOfEnd(t, m, ret(n), want)
		}
		toldOfEnd(t, m, ret(math.MinInt), api.ErrReg)
		toldOfEnd(t, m, ret(math.MaxInt), api.ErrReg)
	}
}

func TestWhatAnEndHasNot(t *testing.T) {
	for _, n := range []int{1, -1, 2, 9, math.MinInt, math.MaxInt} {
		for _, e := range []api.Term{
			{Kind: api.TermJump, A: n, To: [2]int{1}}, {Kind: api.TermJump, To: [2]int{1, n}}, {Kind: api.TermJump, A: n, To: [2]int{9, n}}, {Kind: api.TermReturn, To: [2]int{n}}, {Kind: api.TermReturn, To: [2]int{0, n}}, {Kind: api.TermReturn, A: -1, To: [2]int{n, n}}, {Kind: api.TermReturn, A: 9, To: [2]int{0, n}},
			{Kind: api.TermTrap, A: n}, {Kind: api.TermTrap, To: [2]int{n}}, {Kind: api.TermTrap, To: [2]int{0, n}}, {Kind: api.TermTrap, A: n, To: [2]int{n, n}},
		} {
			toldOfEnd(t, usual, e, api.ErrArg)
		}
	}
}

func TestEachBlock(t *testing.T) {
	for _, many := range []int{1, 2, 3, 199, 200} {
		for _, n := range []int{-1, 0, 1, many - 1, many, many + 1, 200, math.MinInt, math.MaxInt} {
			want := api.ErrBlock
			if 0 <= n && n < many {
				want = api.OK
			}
			for _, e := range []api.Term{jump(n), branch(3, n, 0), branch(3, 0, n), branch(3, n, n), branch(0, n, many-1)} {
				x := chain(many)
				x.Blocks[many-1].Term = e
				if e := Right(usual, x); e != want {
					t.Errorf("%v of %d: %d, not %d", e, many, e, want)
				}
			}
		}
	}
}

// Of one instruction, one end, the error that is named first.
func TestOfOneTheFirstError(t *testing.T) {
	for _, x := range []struct {
		i api.Ins
		e api.Errno
	}{
		{api.Ins{Op: api.OpPut, A: 4, Imm: 2, B: 1}, api.ErrArg}, {api.Ins{Op: api.OpPut, A: 4, Imm: 2}, api.ErrReg}, {put(2, 3), api.ErrSlot}, {put(2, -1), api.ErrReg}, {put(1, 4), api.ErrReg}, {put(-1, 4), api.ErrReg},
		{api.Ins{Op: api.OpGet, Dst: 4, Imm: 2, A: 1}, api.ErrArg}, {get(4, 2), api.ErrReg}, {get(3, 2), api.ErrSlot}, {api.Ins{Op: api.OpGet, Dst: 4, Imm: -1, Args: []int{1}}, api.ErrArg}, {api.Ins{Op: api.OpGet, Imm: 2, Many: 1}, api.ErrArg},
		{let(4, 1<<40+1), api.ErrArg}, {load(4, 4, -1<<40-1), api.ErrArg}, {store(-1, 1<<40+1, 4), api.ErrArg}, {api.Ins{Op: api.OpMove, Dst: 4, A: -1, Imm: 1}, api.ErrArg}, {api.Ins{Op: api.OpAdd, Dst: 4, A: 4, B: 4, Callee: -1}, api.ErrArg}, {two(api.OpSame, 4, -1, 4), api.ErrReg},
	} {
		toldOf(t, usual, x.i, x.e)
	}
	for _, x := range []struct {
		t api.Term
		e api.Errno
	}{
		{branch(4, 9, 9), api.ErrReg}, {branch(-1, 1, -1), api.ErrReg}, {branch(3, 9, 1), api.ErrBlock}, {branch(3, 1, 9), api.ErrBlock}, {api.Term{Kind: api.TermJump, A: 9, To: [2]int{9}}, api.ErrArg}, {api.Term{Kind: api.TermJump, To: [2]int{9, 9}}, api.ErrArg}, {api.Term{Kind: api.TermReturn, A: 2, To: [2]int{9}}, api.ErrArg},
	} {
		toldOfEnd(t, usual, x.t, x.e)
	}
}

// Of two that are wrong the first one's error is told, whatever the second one's: of one block, and of two, of instructions, and of ends.
func TestOfTwoTheFirstOne(t *testing.T) {
	all := []struct {
		i api.Ins
		e api.Errno
	}{
		{move(1, 2), api.OK}, {api.Ins{}, api.ErrArg}, {call(100, 0), api.ErrArg}, {move(4, 0), api.ErrReg}, {put(2, 1), api.ErrSlot}, {get(1, -1), api.ErrSlot},
	}
	ends := []struct {
		t api.Term
		e api.Errno
	}{
		{jump(1), api.OK}, {api.Term{}, api.ErrArg}, {ret(1), api.ErrReg}, {branch(9, 0, 0), api.ErrReg}, {jump(2), api.ErrBlock}, {branch(1, 0, -1), api.ErrBlock},
	}
	or := func(l ...api.Errno) api.Errno {
		return append(slices.DeleteFunc(l, func(e api.Errno) bool { return e == api.OK }), api.OK)[0]
	}
	for _, x := range all {
		for _, y := range all {
			told(t, usual, target(2, block(trap(), x.i, y.i), block(trap())), or(x.e, y.e))
			told(t, usual, target(2, block(trap(), let(0, 1), x.i), block(trap(), y.i)), or(x.e, y.e))
		}
		for _, y := range ends {
			told(t, usual, target(2, block(y.t, x.i), block(trap())), or(x.e, y.e))
			told(t, usual, target(2, block(y.t), block(trap(), x.i)), or(y.e, x.e))
			for _, z := range ends {
				told(t, usual, target(2, block(y.t), block(z.t, x.i)), or(y.e, x.e, z.e))
			}
		}
	}
}

// All Ops with all that an instruction may have, more or less than its own; and what it reads and writes, right or not.
func TestAgreesWithThePlainInstruction(t *testing.T) {
	try := func(m api.Machine, i api.Ins) {
		if e := Right(m, target(2, block(trap(), i))); e != plainRight(m, target(2, block(trap(), i))) {
			t.Fatalf("%v, %v: %d", m, i, e)
		}
		if !slices.Equal(Reads(m, i), plainReads(m, i)) || !slices.Equal(Writes(m, i), plainWrites(m, i)) {
			t.Fatalf("%v, %v: reads %v, writes %v", m, i, Reads(m, i), Writes(m, i))
		}
	}
	for _, m := range []api.Machine{usual, small} {
		for o := api.Op(-1); o <= 18; o++ {
			for _, d := range []int{-1, 0, m.Regs - 1, m.Regs} {
				for _, a := range []int{-1, 0, m.Regs - 1, m.Regs} {
					for _, b := range []int{-1, 0, m.Regs - 1, m.Regs} {
						for _, imm := range []int{-1<<40 - 1, -1 << 40, -1, 0, 1, 2, 1 << 40, 1<<40 + 1} {
							try(m, api.Ins{Op: o, Dst: d, A: a, B: b, Imm: imm})
							try(m, api.Ins{Op: o, Dst: d, A: a, B: b, Imm: imm, Callee: 1})
							try(m, api.Ins{Op: o, Dst: d, A: a, B: b, Imm: imm, Many: 1})
							try(m, api.Ins{Op: o, Dst: d, A: a, B: b, Imm: imm, Args: []int{0}})
						}
					}
				}
			}
			for _, callee := range []int{-1, 0, 99, 100} {
				for _, many := range []int{-1, 0, 1, 2, 3, 8, 9} {
					for _, l := range [][]int{nil, {}, {1}} {
						try(m, api.Ins{Op: o, Callee: callee, Many: many, Args: l})
						try(m, api.Ins{Op: o, Callee: callee, Many: many, Args: l, Dst: 1})
						try(m, api.Ins{Op: o, Callee: callee, Many: many, Args: l, Imm: 1})
					}
				}
			}
		}
	}
}

func TestAgreesWithThePlainEnd(t *testing.T) {
	numbers := []int{math.MinInt, -2, -1, 0, 1, 2, 3, 4, 61, 62, 63, 64, math.MaxInt}
	for _, m := range []api.Machine{usual, small, great} {
		for k := api.TermKind(-1); k <= 6; k++ {
			for _, a := range numbers {
				for _, x := range numbers {
					for _, y := range numbers {
						e := api.Term{Kind: k, A: a, To: [2]int{x, y}}
						one := target(0, block(trap()), block(e), block(trap()))
						if Right(m, one) != plainRight(m, one) || !slices.Equal(Needs(e), plainNeeds(e)) {
							t.Fatalf("%v, %v: %d, needs %v", m, e, Right(m, one), Needs(e))
						}
					}
				}
			}
		}
	}
}

// P6.2

func TestWhatIsReadAndWritten(t *testing.T) {
	for _, x := range []struct {
		i             api.Ins
		reads, writes []api.Loc
	}{
		{let(2, 5), nil, regs(2)}, {load(1, 2, 3), regs(2), regs(1)}, {store(3, 1, 2), regs(3, 2), nil}, {store(2, 0, 2), regs(2, 2), nil},
		{two(api.OpAdd, 1, 3, 2), regs(3, 2), regs(1)}, {two(api.OpSub, 1, 3, 2), regs(3, 2), regs(1)}, {two(api.OpMul, 1, 3, 2), regs(3, 2), regs(1)}, {two(api.OpDiv, 1, 3, 2), regs(3, 2), regs(1)}, {two(api.OpAnd, 1, 3, 2), regs(3, 2), regs(1)},
		{two(api.OpOr, 1, 3, 2), regs(3, 2), regs(1)}, {two(api.OpXor, 1, 3, 2), regs(3, 2), regs(1)}, {two(api.OpLess, 1, 3, 2), regs(3, 2), regs(1)}, {two(api.OpSame, 1, 1, 1), regs(1, 1), regs(1)},
		{call(9, 0), nil, regs(0)}, {call(9, 1), regs(3), regs(0)}, {call(9, 2), regs(3, 1), regs(0)}, {move(1, 2), regs(2), regs(1)}, {put(5, 2), regs(2), []api.Loc{slot(5)}}, {get(2, 5), []api.Loc{slot(5)}, regs(2)}, {put(0, 0), regs(0), []api.Loc{slot(0)}}, {get(0, 0), []api.Loc{slot(0)}, regs(0)},
		// Of instructions that are not right as it is.
		{let(-7, 1<<40+1), nil, regs(-7)}, {load(99, -3, math.MinInt), regs(-3), regs(99)}, {store(math.MaxInt, 0, math.MinInt), regs(math.MaxInt, math.MinInt), nil}, {two(api.OpAdd, 64, -1, 70), regs(-1, 70), regs(64)}, {move(-1, 65), regs(65), regs(-1)},
		{put(401, 99), regs(99), []api.Loc{slot(401)}}, {put(-1, -2), regs(-2), []api.Loc{slot(-1)}}, {get(-5, math.MaxInt), []api.Loc{slot(math.MaxInt)}, regs(-5)}, {get(99, -9), []api.Loc{slot(-9)}, regs(99)},
		{call(-1, 3), regs(3, 1), regs(0)}, {call(100, 9), regs(3, 1), regs(0)}, {call(0, math.MaxInt), regs(3, 1), regs(0)}, {call(0, -1), nil, regs(0)}, {call(0, math.MinInt), nil, regs(0)},
		// What an Op has not is not told, whatever it is.
		{api.Ins{Op: api.OpConst, Dst: 1, A: 2, B: 3, Args: []int{4}, Many: 1}, nil, regs(1)}, {api.Ins{Op: api.OpLoad, Dst: 1, A: 2, B: 3, Many: 2}, regs(2), regs(1)}, {api.Ins{Op: api.OpStore, Dst: 1, A: 2, B: 3}, regs(2, 3), nil}, {api.Ins{Op: api.OpMove, Dst: 1, A: 2, B: 3, Imm: 4}, regs(2), regs(1)},
		{api.Ins{Op: api.OpPut, Dst: 1, A: 2, B: 3, Imm: 4}, regs(2), []api.Loc{slot(4)}}, {api.Ins{Op: api.OpGet, Dst: 1, A: 2, B: 3, Imm: 4}, []api.Loc{slot(4)}, regs(1)}, {api.Ins{Op: api.OpCall, Dst: 1, A: 2, B: 3, Imm: 4, Args: []int{7, 8}, Many: 1}, regs(3), regs(0)}, {api.Ins{Op: api.OpAdd, Dst: 1, A: 2, B: 3, Imm: 4, Args: []int{5}, Many: 2}, regs(2, 3), regs(1)},
		{api.Ins{Op: api.OpCopy, Dst: 1, A: 2, B: 3, Imm: 4}, nil, nil}, {api.Ins{Dst: 1, A: 2}, nil, nil}, {api.Ins{Op: 18, Dst: 1, A: 2, Many: 1}, nil, nil}, {api.Ins{Op: -1, Dst: 1, A: 2, Imm: 1}, nil, nil},
	} {
		if !slices.Equal(Reads(usual, x.i), x.reads) || !slices.Equal(Writes(usual, x.i), x.writes) {
			t.Errorf("%v: reads %v, writes %v", x.i, Reads(usual, x.i), Writes(usual, x.i))
		}
	}
}

// Of a machine that is not right its registers are told as they are.
func TestReadAndWrittenOfAnyMachine(t *testing.T) {
	long := api.Machine{Regs: 2, Args: make([]int, 1<<16), Ret: -4}
	long.Args[0], long.Args[8], long.Args[1<<16-1] = -1, 99, math.MaxInt
	for _, m := range append(wrongMachines(), long, small, great, api.Machine{Args: []int{5, 5, -9, math.MinInt}, Ret: math.MaxInt}) {
		for _, many := range []int{math.MinInt, -1, 0, 1, 2, 8, 9, 10, len(m.Args) - 1, len(m.Args), len(m.Args) + 1, math.MaxInt} {
			want := regs(m.Args[:max(0, min(many, len(m.Args)))]...)
			if l := Reads(m, call(1, many)); !slices.Equal(l, want) {
				t.Errorf("%d of %d: %d", many, len(m.Args), len(l))
			}
			if l := Writes(m, call(1, many)); !slices.Equal(l, regs(m.Ret)) {
				t.Errorf("%d: %v", m.Ret, l)
			}
		}
		for _, x := range each {
			if x.i.Op != api.OpCall && (!slices.Equal(Reads(m, x.i), Reads(usual, x.i)) || !slices.Equal(Writes(m, x.i), Writes(usual, x.i))) {
				t.Errorf("%v: reads %v, writes %v", x.i, Reads(m, x.i), Writes(m, x.i))
			}
		}
	}
}

func TestWhatAnEndReads(t *testing.T) {
	for _, x := range []struct {
		t     api.Term
		needs []api.Loc
	}{
		{jump(1), nil}, {trap(), nil}, {branch(3, 1, 2), regs(3)}, {branch(0, 0, 0), regs(0)}, {ret(0), regs(0)}, {ret(63), regs(63)}, {ret(-1), nil},
		{ret(-2), regs(-2)}, {ret(99), regs(99)}, {ret(math.MinInt), regs(math.MinInt)}, {branch(-1, 1, 2), regs(-1)}, {branch(64, -1, 9), regs(64)}, {branch(math.MaxInt, 0, 0), regs(math.MaxInt)},
		{api.Term{Kind: api.TermReturn, A: 2, To: [2]int{1, 1}}, regs(2)}, {api.Term{Kind: api.TermReturn, A: -1, To: [2]int{1, 1}}, nil}, {api.Term{Kind: api.TermJump, A: 2, To: [2]int{1, 1}}, nil}, {api.Term{Kind: api.TermTrap, A: 2}, nil}, {api.Term{A: 2}, nil}, {api.Term{Kind: 5, A: 2}, nil}, {api.Term{Kind: -1, A: 2}, nil},
	} {
		if l := Needs(x.t); !slices.Equal(l, x.needs) {
			t.Errorf("%v: %v", x.t, l)
		}
	}
}

func TestSize(t *testing.T) {
	for _, x := range []struct {
		t    api.Target
		want int
	}{
		{api.Target{}, 0}, {api.Target{Frame: 5}, 0}, {target(0, []api.Block{}...), 0}, {target(0, api.Block{}), 1}, {target(0, block(trap())), 1}, {target(9, block(trap(), let(1, 2), move(1, 2))), 3},
		{target(-1, block(trap(), make([]api.Ins, 3)...), block(jump(9))), 5}, {chain(200), 200}, {chain(201), 201}, {target(0, block(trap(), make([]api.Ins, 4001)...), block(trap(), let(1, 1))), 4004}, {api.Target{Blocks: make([]api.Block, 1<<16)}, 1 << 16},
	} {
		if n := Size(x.t); n != x.want {
			t.Errorf("%d, not %d", n, x.want)
		}
	}
}

// P6.3

func TestWhatARightTargetReadsAndWrites(t *testing.T) {
	there := func(m api.Machine, frame int, l ...api.Loc) {
		for _, at := range l {
			if at.Slot && (at.N < 0 || at.N >= frame) || !at.Slot && (at.N < 0 || at.N >= m.Regs) {
				t.Fatalf("%v, %d slots: %v", m, frame, at)
			}
		}
	}
	numbers := []int{-1, 0, 1, 2, 3, 4, 61, 62, 63, 64, 399, 400}
	right := 0
	for _, m := range []api.Machine{usual, small, great} {
		for _, frame := range []int{0, 1, 2, 400} {
			for o := api.Op(0); o <= 18; o++ {
				for _, d := range numbers {
					for _, a := range numbers {
						for _, n := range numbers {
							for _, i := range []api.Ins{{Op: o, Dst: d, A: a, B: n}, {Op: o, Dst: d, A: a, Imm: n}, {Op: o, A: a, B: d, Imm: n}, {Op: o, A: a, Imm: n}, {Op: o, Dst: d, Imm: n}, {Op: o, Many: n}} {
								if Right(m, target(frame, block(ret(-1), i))) == api.OK {
									there(m, frame, Reads(m, i)...)
									there(m, frame, Writes(m, i)...)
									right++
								}
							}
						}
					}
				}
			}
			for _, a := range numbers {
				for _, e := range []api.Term{ret(a), branch(a, 0, 0), jump(a), trap()} {
					if Right(m, target(frame, block(e))) == api.OK {
						there(m, frame, Needs(e)...)
						right++
					}
				}
			}
		}
	}
	if right < 10000 {
		t.Error("too few are right:", right)
	}
}

// R3, R4

func deep(t api.Target) api.Target {
	t.Blocks = slices.Clone(t.Blocks)
	for b := range t.Blocks {
		t.Blocks[b].Ins = slices.Clone(t.Blocks[b].Ins)
		for i := range t.Blocks[b].Ins {
			t.Blocks[b].Ins[i].Args = slices.Clone(t.Blocks[b].Ins[i].Args)
		}
	}
	return t
}

func TestNothingIsChanged(t *testing.T) {
	var all []api.Ins
	for _, x := range each {
		all = append(all, x.i, api.Ins{Op: x.i.Op, Dst: -1, A: 9, B: 9, Imm: 7, Callee: 100, Args: []int{3, 2, 1}, Many: 9})
	}
	for _, m := range append(wrongMachines(), usual, small, great) {
		mWas := m
		mWas.Args, mWas.Saved = slices.Clone(m.Args), slices.Clone(m.Saved)
		for _, x := range []api.Target{{}, target(2, block(branch(1, 1, 0), all...), block(ret(0), all[0])), chain(3), target(-1, block(trap(), all...))} {
			was := deep(x)
			e, n := Right(m, x), Size(x)
			for _, i := range all {
				Reads(m, i)
				Writes(m, i)
			}
			if again := Right(m, x); again != e || Size(x) != n {
				t.Errorf("%d, then %d; %d, then %d", e, again, n, Size(x))
			}
			if !reflect.DeepEqual(x, was) || !reflect.DeepEqual(m, mWas) {
				t.Errorf("%v became %v", was, x)
			}
		}
	}
}

// What is told lies apart from what was handed in, and from what is told another time.
func TestWhatIsToldIsNewMemory(t *testing.T) {
	m := api.Machine{Regs: 8, Args: []int{1, 2, 3, 4}, Ret: 0, Saved: []int{5}}
	spoil := func(l []api.Loc) {
		l = l[:cap(l)]
		for n := range l {
			l[n] = api.Loc{Slot: true, N: -99}
		}
	}
	for _, x := range append(slices.Clone(each), each[3]) {
		i := x.i
		i.Many = min(4, i.Many*4)
		was := i
		reads, writes := plainReads(m, i), plainWrites(m, i)
		one, other := Reads(m, i), Writes(m, i)
		spoil(Reads(m, i))
		spoil(Writes(m, i))
		if !slices.Equal(one, reads) || !slices.Equal(other, writes) || !slices.Equal(Reads(m, i), reads) || !slices.Equal(Writes(m, i), writes) || !reflect.DeepEqual(i, was) {
			t.Errorf("%v: reads %v, writes %v", i, one, other)
		}
	}
	e := branch(3, 1, 2)
	one := Needs(e)
	spoil(Needs(e))
	if !slices.Equal(one, regs(3)) || !slices.Equal(Needs(e), regs(3)) || !slices.Equal(m.Args, []int{1, 2, 3, 4}) {
		t.Error(one, m)
	}
}
