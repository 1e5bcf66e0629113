package mrun

import (
	"math"
	"reflect"
	"slices"
	"testing"

	"intarsia/api"
	"intarsia/mach"
	"intarsia/mir"
	"intarsia/run"
)

func jump(to int) api.Term        { return api.Term{Kind: api.TermJump, To: [2]int{to}} }
func branch(a, x, y int) api.Term { return api.Term{Kind: api.TermBranch, A: a, To: [2]int{x, y}} }
func ret(a int) api.Term          { return api.Term{Kind: api.TermReturn, A: a} }
func stop() api.Term              { return api.Term{Kind: api.TermTrap} }

func let(d, n int) api.Ins              { return api.Ins{Op: api.OpConst, Dst: d, Imm: n} }
func two(o api.Op, d, a, b int) api.Ins { return api.Ins{Op: o, Dst: d, A: a, B: b} }
func load(d, a, n int) api.Ins          { return api.Ins{Op: api.OpLoad, Dst: d, A: a, Imm: n} }
func store(a, n, b int) api.Ins         { return api.Ins{Op: api.OpStore, A: a, B: b, Imm: n} }
func call(callee, many int) api.Ins     { return api.Ins{Op: api.OpCall, Callee: callee, Many: many} }
func move(d, a int) api.Ins             { return api.Ins{Op: api.OpMove, Dst: d, A: a} }
func put(s, a int) api.Ins              { return api.Ins{Op: api.OpPut, A: a, Imm: s} }
func get(d, s int) api.Ins              { return api.Ins{Op: api.OpGet, Dst: d, Imm: s} }

func block(t api.Term, l ...api.Ins) api.Block { return api.Block{Ins: l, Term: t} }

func target(frame int, l ...api.Block) api.Target { return api.Target{Frame: frame, Blocks: l} }

func called(callee int, args ...int) api.Call { return api.Call{Callee: callee, Args: args} }

func reg(n int) api.Loc  { return api.Loc{N: n} }
func slot(n int) api.Loc { return api.Loc{Slot: true, N: n} }

// at is a place, and what is there.
type at struct {
	l api.Loc
	n int
}

func r(n, value int) at { return at{reg(n), value} }
func s(n, value int) at { return at{slot(n), value} }

// usual has registers of all kinds, apart from each other; great has the most that may be, of which arguments come in saved ones, too.
var (
	usual = api.Machine{Regs: 6, Args: []int{1, 2}, Ret: 0, Saved: []int{3, 4}}
	great = api.Machine{Regs: 64, Args: []int{63, 0, 7, 6, 5, 4, 3, 2}, Ret: 62, Saved: []int{0, 60, 61, 63}}
)

// upTo are so many numbers, from 0 on.
func upTo(many int) (l []int) {
	for n := range many {
		l = append(l, n)
	}
	return l
}

// ring goes round for ever, in two steps a round.
func ring() api.Target { return target(0, block(jump(1)), block(jump(0))) }

// countdown returns its argument's number of rounds, in three steps each, and four more.
func countdown() api.Target {
	return target(0, block(jump(1), let(2, 1)), block(branch(1, 2, 3)), block(jump(1), two(api.OpSub, 1, 1, 2)), block(ret(0), move(0, 1)))
}

// most, least are the ends of all numbers.
const (
	most  = math.MaxInt
	least = math.MinInt
)

// same holds two results against each other; no list and one without elements are one.
func same(a, b run.Result) bool {
	sameCall := func(c, d api.Call) bool { return c.Callee == d.Callee && slices.Equal(c.Args, d.Args) }
	return a.End == b.End && a.Value == b.Value && a.Steps == b.Steps && slices.Equal(a.Mem, b.Mem) && slices.EqualFunc(a.Calls, b.Calls, sameCall)
}

// begins fails unless a run begins.
func begins(t *testing.T, g given) *Run {
	t.Helper()
	x, e := Begin(g.m, g.t, g.args, g.mem, g.answers, g.first)
	if x == nil || e != api.OK {
		t.Fatalf("%v: %v, %d", g, x, e)
	}
	return x
}

// steps does that many steps, all of which there must be.
func steps(t *testing.T, x *Run, many int) *Run {
	t.Helper()
	for n := range many {
		if !x.Step() {
			t.Fatalf("no step behind %d: %v", n, x.Result())
		}
	}
	return x
}

// stands fails unless a run stands there.
func stands(t *testing.T, x *Run, block, ins int) {
	t.Helper()
	if b, i := x.At(); b != block || i != ins {
		t.Errorf("it stands at %d, %d, not at %d, %d: %v", b, i, block, ins, x.Result())
	}
}

// became fails unless that became of a run.
func became(t *testing.T, x *Run, want run.Result) {
	t.Helper()
	if !same(x.Result(), want) {
		t.Errorf("%v, not %v", x.Result(), want)
	}
}

// places are all that there may be, and more.
func places() (l []api.Loc) {
	for _, n := range []int{least, -100, most, 1 << 32} {
		l = append(l, reg(n), slot(n))
	}
	for n := -3; n < 410; n++ {
		l = append(l, reg(n), slot(n))
	}
	return l
}

// holds fails unless just these places have values.
func holds(t *testing.T, x *Run, all ...at) {
	t.Helper()
	for _, l := range places() {
		want, is := 0, false
		if k := slices.IndexFunc(all, func(a at) bool { return a.l == l }); k >= 0 {
			want, is = all[k].n, true
		}
		if n, ok := x.Loc(l); n != want || ok != is {
			t.Errorf("%v: %d, %v, not %d, %v", l, n, ok, want, is)
		}
	}
}

// ended fails unless nothing is done any more, and all stays.
func ended(t *testing.T, x *Run) {
	t.Helper()
	look := func() []any {
		b, i := x.At()
		l := []any{x.Result(), b, i}
		for _, p := range places() {
			n, ok := x.Loc(p)
			l = append(l, n, ok)
		}
		return l
	}
	was := look()
	for range 3 {
		if x.Step() || !reflect.DeepEqual(look(), was) {
			t.Errorf("it goes on: %v, %v", was, look())
		}
	}
}

// P9.1

func TestMirsErrors(t *testing.T) {
	chain := target(0)
	for b := range api.MaxAll + 1 {
		chain.Blocks = append(chain.Blocks, block(jump(b+1)))
	}
	chain.Blocks[api.MaxAll].Term = ret(-1)
	long := target(0, block(ret(-1), slices.Repeat([]api.Ins{move(0, 1)}, api.MaxTarget+1)...))
	told := map[api.Errno]int{}
	for n, x := range []struct {
		m api.Machine
		t api.Target
		e api.Errno
	}{
		{api.Machine{}, target(0, block(stop())), api.ErrArg}, {api.Machine{Regs: 65}, target(0, block(stop())), api.ErrArg}, {api.Machine{Regs: 2, Ret: 2}, target(0), api.ErrArg}, {api.Machine{Regs: 3, Args: []int{1, 1}}, target(0, block(stop())), api.ErrArg},
		{api.Machine{Regs: 3, Saved: []int{2, 1}}, target(0, block(stop())), api.ErrArg}, {api.Machine{Regs: 3, Saved: []int{0}}, target(0, block(stop())), api.ErrArg}, {api.Machine{Regs: -1, Args: make([]int, 1<<20)}, api.Target{}, api.ErrArg},
		{usual, api.Target{}, api.ErrLong}, {usual, chain, api.ErrLong}, {usual, long, api.ErrLong}, {usual, target(-1, block(stop())), api.ErrLong}, {usual, target(401, block(stop())), api.ErrLong},
		{usual, target(0, block(stop(), api.Ins{})), api.ErrArg}, {usual, target(0, block(stop(), api.Ins{Op: api.OpCopy})), api.ErrArg}, {usual, target(0, block(stop(), call(1, 3))), api.ErrArg}, {usual, target(0, block(api.Term{})), api.ErrArg},
		{usual, target(0, block(stop(), move(6, 0))), api.ErrReg}, {usual, target(0, block(ret(1))), api.ErrReg}, {usual, target(0, block(branch(-1, 0, 0))), api.ErrReg}, {usual, target(0, block(stop(), move(0, -1), api.Ins{})), api.ErrReg},
		{usual, target(0, block(stop(), put(0, 1))), api.ErrSlot}, {usual, target(2, block(stop(), get(1, 2))), api.ErrSlot}, {usual, target(2, block(stop(), get(1, -1), move(9, 9))), api.ErrSlot},
		{usual, target(0, block(jump(1))), api.ErrBlock}, {usual, target(0, block(jump(-1))), api.ErrBlock}, {usual, target(0, block(branch(0, 0, 1))), api.ErrBlock}, {usual, target(0, block(stop()), block(jump(2))), api.ErrBlock},
	} {
		if e := mir.Right(x.m, x.t); e != x.e {
			t.Errorf("%d: mir tells %d", n, e)
		}
		told[x.e]++
		// Mir's error is told ahead of all others.
		for _, g := range []given{{m: x.m, t: x.t}, {m: x.m, t: x.t, args: upTo(3)}, {m: x.m, t: x.t, mem: upTo(65)}, {x.m, x.t, upTo(9), upTo(100), upTo(2), upTo(3)}} {
			if y, e := Begin(g.m, g.t, g.args, g.mem, g.answers, g.first); y != nil || e != x.e {
				t.Errorf("%d: %v, %d, not %d", n, y, e, x.e)
			}
			for _, fuel := range []int{-1, 0, 20000, 20001} {
				if y, e := Go(g.m, g.t, g.args, g.mem, g.answers, g.first, fuel); !reflect.DeepEqual(y, run.Result{}) || e != x.e {
					t.Errorf("%d, fuel %d: %v, %d, not %d", n, fuel, y, e, x.e)
				}
			}
		}
	}
	if len(told) != 5 {
		t.Error(told)
	}
}

func TestMoreThanMayBe(t *testing.T) {
	none := api.Machine{Regs: 2}
	for n, x := range []struct {
		m         api.Machine
		args, mem int
		e         api.Errno
	}{
		{usual, 0, 0, api.OK}, {usual, 1, 0, api.OK}, {usual, 2, 0, api.OK}, {usual, 3, 0, api.ErrArg}, {usual, 1 << 20, 0, api.ErrArg}, {none, 0, 0, api.OK}, {none, 1, 0, api.ErrArg}, {great, 8, 0, api.OK}, {great, 9, 0, api.ErrArg},
		{usual, 2, 1, api.OK}, {usual, 2, 63, api.OK}, {usual, 2, 64, api.OK}, {usual, 2, 65, api.ErrArg}, {usual, 0, 1 << 20, api.ErrArg}, {usual, 3, 65, api.ErrArg}, {great, 8, 64, api.OK},
	} {
		for _, many := range []int{0, 1, 2, 3, 100} {
			g := given{x.m, target(0, block(stop())), make([]int, x.args), make([]int, x.mem), upTo(many), upTo(many)}
			if y, e := Begin(g.m, g.t, g.args, g.mem, g.answers, g.first); (y == nil) != (e != api.OK) || e != x.e {
				t.Errorf("%d: %v, %d, not %d", n, y, e, x.e)
			}
			for _, fuel := range []int{0, 20000, 20001} {
				want := x.e
				if want == api.OK && fuel > 20000 {
					want = api.ErrLong
				}
				y, e := Go(g.m, g.t, g.args, g.mem, g.answers, g.first, fuel)
				if e != want || e != api.OK && !reflect.DeepEqual(y, run.Result{}) {
					t.Errorf("%d, fuel %d: %v, %d, not %d", n, fuel, y, e, want)
				}
			}
		}
	}
}

// other machines than usual: with arguments in registers that are saved, with one in that which is returned.
var (
	inSaved = api.Machine{Regs: 4, Args: []int{3, 1, 0}, Ret: 2, Saved: []int{0, 1}}
	inRet   = api.Machine{Regs: 2, Args: []int{1}, Ret: 1, Saved: []int{0}}
)

func TestWhatARunHasAtFirst(t *testing.T) {
	for n, x := range []struct {
		m           api.Machine
		args, first []int
		all         []at
	}{
		{usual, nil, nil, []at{r(3, 0), r(4, 0)}}, {usual, nil, []int{7}, []at{r(3, 7), r(4, 0)}}, {usual, nil, []int{7, least}, []at{r(3, 7), r(4, least)}}, {usual, nil, []int{7, 8, 9, 10, 11, 12, 13}, []at{r(3, 7), r(4, 8)}},
		{usual, []int{5}, []int{7, 8}, []at{r(1, 5), r(3, 7), r(4, 8)}}, {usual, []int{5, most}, []int{0, 8}, []at{r(1, 5), r(2, most), r(3, 0), r(4, 8)}}, {usual, []int{0, 0}, nil, []at{r(1, 0), r(2, 0), r(3, 0), r(4, 0)}},
		{api.Machine{Regs: 2}, nil, nil, nil}, {api.Machine{Regs: 2}, nil, []int{4, 5}, nil}, {api.Machine{Regs: 1, Args: []int{0}}, []int{6}, []int{4}, []at{r(0, 6)}},
		{inSaved, nil, []int{7, 8}, []at{r(0, 7), r(1, 8)}}, {inSaved, []int{4}, []int{7, 8}, []at{r(0, 7), r(1, 8), r(3, 4)}}, {inSaved, []int{4, 5}, []int{7, 8}, []at{r(0, 7), r(1, 5), r(3, 4)}}, {inSaved, []int{4, 5, 6}, []int{7, 8}, []at{r(0, 6), r(1, 5), r(3, 4)}},
		{inSaved, []int{4, 5}, nil, []at{r(0, 0), r(1, 5), r(3, 4)}}, {inRet, []int{9}, []int{3}, []at{r(0, 3), r(1, 9)}},
		{great, []int{10, 11, 12, 13, 14, 15, 16, 17}, []int{1, 2}, []at{r(63, 10), r(0, 11), r(7, 12), r(6, 13), r(5, 14), r(4, 15), r(3, 16), r(2, 17), r(60, 2), r(61, 0)}},
	} {
		for _, many := range []int{0, 1, 64} {
			mem := slices.Repeat([]int{n}, many)
			y := begins(t, given{x.m, target(400, block(stop(), let(0, 1)), block(stop())), x.args, mem, []int{1, 2}, x.first})
			became(t, y, run.Result{Mem: mem})
			stands(t, y, 0, 0)
			holds(t, y, x.all...)
		}
	}
}

// P9.2

// full is a run whose registers but 0 and 5, and whose slot 1, have values.
func full(t *testing.T, end api.Term, l ...api.Ins) *Run {
	t.Helper()
	g := given{usual, target(3, block(jump(1), put(1, 2)), block(end, l...)), []int{12, -5}, []int{8, 9}, []int{77, 78}, []int{1, 0}}
	return steps(t, begins(t, g), 2)
}

// has is what full has, but with these values.
func has(more ...at) (l []at) {
	for _, a := range append([]at{r(1, 12), r(2, -5), r(3, 1), r(4, 0), s(1, -5)}, more...) {
		l = slices.DeleteFunc(l, func(b at) bool { return b.l == a.l })
		l = append(l, a)
	}
	return l
}

func TestEachInstructionIsOneStep(t *testing.T) {
	for _, x := range []struct {
		i api.Ins
		w at
	}{
		{let(5, -5), r(5, -5)}, {let(0, 1<<40), r(0, 1<<40)}, {let(3, 9), r(3, 9)}, {let(1, 0), r(1, 0)},
		{two(api.OpAdd, 5, 1, 2), r(5, 7)}, {two(api.OpSub, 5, 1, 2), r(5, 17)}, {two(api.OpSub, 5, 2, 1), r(5, -17)}, {two(api.OpMul, 0, 1, 2), r(0, -60)}, {two(api.OpDiv, 0, 1, 2), r(0, -2)}, {two(api.OpDiv, 0, 2, 1), r(0, 0)}, {two(api.OpDiv, 0, 4, 1), r(0, 0)},
		{two(api.OpAnd, 5, 1, 2), r(5, 8)}, {two(api.OpOr, 5, 1, 2), r(5, -1)}, {two(api.OpXor, 5, 1, 2), r(5, -9)}, {two(api.OpLess, 5, 1, 2), r(5, 0)}, {two(api.OpLess, 5, 2, 1), r(5, 1)}, {two(api.OpSame, 5, 1, 2), r(5, 0)}, {two(api.OpSame, 5, 2, 2), r(5, 1)},
		{two(api.OpAdd, 1, 1, 1), r(1, 24)}, {two(api.OpSub, 3, 3, 3), r(3, 0)},
		{load(5, 1, -12), r(5, 8)}, {load(0, 2, 6), r(0, 9)}, {load(1, 1, -11), r(1, 9)}, {load(5, 3, 0), r(5, 9)},
		{move(5, 1), r(5, 12)}, {move(0, 2), r(0, -5)}, {move(1, 2), r(1, -5)}, {move(1, 1), r(1, 12)}, {move(3, 4), r(3, 0)}, {move(4, 3), r(4, 1)},
		{put(0, 1), s(0, 12)}, {put(1, 1), s(1, 12)}, {put(2, 4), s(2, 0)}, {put(2, 2), s(2, -5)}, {get(5, 1), r(5, -5)}, {get(0, 1), r(0, -5)}, {get(1, 1), r(1, -5)}, {get(4, 1), r(4, -5)},
	} {
		y := steps(t, full(t, stop(), x.i, let(0, 9)), 1)
		became(t, y, run.Result{Mem: []int{8, 9}, Steps: 3})
		stands(t, y, 1, 1)
		holds(t, y, has(x.w)...)
	}
	for _, x := range []struct {
		i   api.Ins
		mem []int
	}{
		{store(1, -12, 2), []int{-5, 9}}, {store(2, 6, 1), []int{8, 12}}, {store(1, -11, 1), []int{8, 12}}, {store(4, 0, 3), []int{1, 9}}, {store(3, 0, 4), []int{8, 0}},
	} {
		y := steps(t, full(t, stop(), x.i, let(0, 9)), 1)
		became(t, y, run.Result{Mem: x.mem, Steps: 3})
		stands(t, y, 1, 1)
		holds(t, y, has()...)
	}
}

// Nothing of a step that reads what has no value is done: the registers 0, 5 and the slots 0, 2 have none.
func TestWhatHasNoValueIsRead(t *testing.T) {
	l := []api.Ins{
		load(1, 0, 0), load(0, 0, 0), load(5, 5, -1<<40), store(0, 0, 1), store(1, -12, 0), store(2, 6, 5), store(0, 0, 0), store(1, 0, 5), store(1, 1<<40, 0),
		move(1, 0), move(0, 0), move(5, 0), move(0, 5), put(0, 0), put(1, 5), put(1, 0), get(1, 0), get(1, 2), get(0, 2), get(5, 0),
	}
	for o := api.OpAdd; o <= api.OpSame; o++ {
		l = append(l, two(o, 1, 0, 2), two(o, 1, 2, 0), two(o, 1, 5, 5), two(o, 0, 0, 1), two(o, 5, 0, 4), two(o, 1, 4, 5))
	}
	for _, i := range l {
		y := steps(t, full(t, stop(), i, let(0, 9)), 1)
		became(t, y, run.Result{End: api.EndBroken, Mem: []int{8, 9}, Steps: 3})
		stands(t, y, 1, 0)
		holds(t, y, has()...)
		ended(t, y)
	}
	for _, end := range []api.Term{branch(0, 0, 1), branch(5, 1, 1), branch(5, 0, 0), ret(0)} {
		y := steps(t, full(t, end), 1)
		became(t, y, run.Result{End: api.EndBroken, Mem: []int{8, 9}, Steps: 3})
		stands(t, y, 1, 0)
		holds(t, y, has()...)
		ended(t, y)
	}
}

func TestACallsArgumentWithoutAValue(t *testing.T) {
	for many, end := range []api.EndKind{api.EndNone, api.EndBroken, api.EndBroken} {
		y := steps(t, begins(t, given{usual, target(0, block(stop(), call(7, many))), nil, []int{1}, []int{9}, nil}), 1)
		want := run.Result{End: end, Mem: []int{1}, Steps: 1}
		if end == api.EndNone {
			want.Calls = []api.Call{called(7)}
			holds(t, y, r(0, 9), r(3, 0), r(4, 0))
		} else {
			holds(t, y, r(3, 0), r(4, 0))
			stands(t, y, 0, 0)
			ended(t, y)
		}
		became(t, y, want)
	}
	// Of two arguments the last one has none; without an answer it is broken, too, and no trap.
	for _, answers := range [][]int{nil, {9}} {
		for many, end := range []api.EndKind{api.EndTrap, api.EndTrap, api.EndBroken} {
			y := steps(t, begins(t, given{usual, target(0, block(stop(), call(7, many))), []int{5}, nil, answers, nil}), 1)
			if answers != nil && end == api.EndTrap {
				end = api.EndNone
			}
			want := run.Result{End: end, Steps: 1, Calls: []api.Call{called(7, []int{5}[:min(many, 1)]...)}}
			if end == api.EndBroken {
				want.Calls = nil
				holds(t, y, r(1, 5), r(3, 0), r(4, 0))
			}
			became(t, y, want)
		}
	}
}

func TestPlacesOfTheMemory(t *testing.T) {
	try := func(many, a, imm int) {
		t.Helper()
		mem := make([]int, many)
		for n := range mem {
			mem[n] = 100 + n
		}
		place := a + imm
		is := 0 <= place && place < many
		got := steps(t, begins(t, given{usual, target(0, block(stop(), load(5, 1, imm))), []int{a, -9}, mem, nil, nil}), 1)
		put := steps(t, begins(t, given{usual, target(0, block(stop(), store(1, imm, 2))), []int{a, -9}, mem, nil, nil}), 1)
		at := []at{r(1, a), r(2, -9), r(3, 0), r(4, 0)}
		holds(t, put, at...)
		if !is {
			for _, y := range []*Run{got, put} {
				became(t, y, run.Result{End: api.EndTrap, Mem: mem, Steps: 1})
				stands(t, y, 0, 0)
				ended(t, y)
			}
			holds(t, got, at...)
			return
		}
		became(t, got, run.Result{Mem: mem, Steps: 1})
		holds(t, got, append(at, r(5, 100+place))...)
		stands(t, got, 0, 1)
		after := slices.Clone(mem)
		after[place] = -9
		became(t, put, run.Result{Mem: after, Steps: 1})
		stands(t, put, 0, 1)
	}
	for _, many := range []int{0, 1, 2, 64} {
		for _, place := range []int{-1, 0, 1, many - 1, many, 63, 64, 65} {
			for _, imm := range []int{0, 1, -1, 1 << 40, -1 << 40} {
				try(many, place-imm, imm)
			}
		}
		// Sums that wrap around.
		for _, imm := range []int{1, 2, 64, 1 << 40} {
			try(many, most, imm)
			try(many, most-imm+1, imm)
			try(many, least, -imm)
			try(many, least+imm-1, -imm)
		}
	}
}

func TestCalls(t *testing.T) {
	g := given{usual, target(1, block(stop(), put(0, 2), let(5, 50), call(7, 2), call(8, 0), call(9, 0))), []int{10, 20}, []int{4}, []int{100, 200}, []int{6, 7}}
	all := []api.Call{called(7, 10, 20), called(8), called(9)}
	y := steps(t, begins(t, g), 2)
	holds(t, y, r(1, 10), r(2, 20), r(3, 6), r(4, 7), r(5, 50), s(0, 20))
	// Registers that are not saved have no value any more, but the one that is returned.
	steps(t, y, 1)
	became(t, y, run.Result{Calls: all[:1], Mem: []int{4}, Steps: 3})
	holds(t, y, r(0, 100), r(3, 6), r(4, 7), s(0, 20))
	stands(t, y, 0, 3)
	steps(t, y, 1)
	became(t, y, run.Result{Calls: all[:2], Mem: []int{4}, Steps: 4})
	holds(t, y, r(0, 200), r(3, 6), r(4, 7), s(0, 20))
	// There is no answer left: the call is noted, no more.
	steps(t, y, 1)
	became(t, y, run.Result{End: api.EndTrap, Calls: all, Mem: []int{4}, Steps: 5})
	holds(t, y, r(0, 200), r(3, 6), r(4, 7), s(0, 20))
	stands(t, y, 0, 4)
	ended(t, y)
	none := steps(t, begins(t, given{m: usual, t: target(0, block(stop(), call(5, 2))), args: []int{1, 2}}), 1)
	became(t, none, run.Result{End: api.EndTrap, Calls: []api.Call{called(5, 1, 2)}, Steps: 1})
	holds(t, none, r(1, 1), r(2, 2), r(3, 0), r(4, 0))
	stands(t, none, 0, 0)
	ended(t, none)
}

func TestCallsOfOtherMachines(t *testing.T) {
	for n, x := range []struct {
		m    api.Machine
		many int
		args []int
		want []int
		all  []at
	}{
		{great, 8, []int{10, 11, 12, 13, 14, 15, 16, 17}, []int{10, 11, 12, 13, 14, 15, 16, 17}, []at{r(62, 99), r(0, 11), r(60, 2), r(61, 3), r(63, 10)}}, {great, 3, []int{10, 11, 12, 13, 14, 15, 16, 17}, []int{10, 11, 12}, []at{r(62, 99), r(0, 11), r(60, 2), r(61, 3), r(63, 10)}},
		{great, 1, []int{10}, []int{10}, []at{r(62, 99), r(0, 1), r(60, 2), r(61, 3), r(63, 10)}}, {great, 0, nil, nil, []at{r(62, 99), r(0, 1), r(60, 2), r(61, 3), r(63, 4)}}, {great, 2, nil, []int{4, 1}, []at{r(62, 99), r(0, 1), r(60, 2), r(61, 3), r(63, 4)}},
		{inSaved, 3, []int{5, 6, 7}, []int{5, 6, 7}, []at{r(0, 7), r(1, 6), r(2, 99)}}, {inRet, 1, []int{5}, []int{5}, []at{r(0, 1), r(1, 99)}}, {api.Machine{Regs: 1}, 0, nil, nil, []at{r(0, 99)}}, {api.Machine{Regs: 3, Args: []int{0, 1, 2}, Ret: 1}, 3, []int{5, 6, 7}, []int{5, 6, 7}, []at{r(1, 99)}},
	} {
		y := steps(t, begins(t, given{x.m, target(0, block(stop(), call(0, x.many))), x.args, nil, []int{99}, []int{1, 2, 3, 4}}), 1)
		became(t, y, run.Result{Calls: []api.Call{called(0, x.want...)}, Steps: 1})
		holds(t, y, x.all...)
		if t.Failed() {
			t.Fatal(n)
		}
	}
}

// A register that a call lost, and got again, may be read.
func TestLostRegisters(t *testing.T) {
	for _, x := range []struct {
		l    []api.Ins
		end  api.EndKind
		want int
	}{
		{[]api.Ins{move(0, 1)}, api.EndBroken, 0}, {[]api.Ins{move(0, 2)}, api.EndBroken, 0}, {[]api.Ins{move(0, 5)}, api.EndBroken, 0}, {[]api.Ins{two(api.OpAdd, 0, 0, 1)}, api.EndBroken, 0}, {[]api.Ins{call(2, 1)}, api.EndBroken, 0}, {[]api.Ins{call(2, 2)}, api.EndBroken, 0},
		{nil, api.EndReturn, 70}, {[]api.Ins{move(1, 0), let(0, 3), move(0, 1)}, api.EndReturn, 70}, {[]api.Ins{move(0, 3)}, api.EndReturn, 44}, {[]api.Ins{get(1, 0), move(0, 1)}, api.EndReturn, 5}, {[]api.Ins{get(0, 1)}, api.EndBroken, 0},
		{[]api.Ins{move(1, 0), call(2, 1)}, api.EndReturn, 71}, {[]api.Ins{let(1, 0), let(2, 0), call(2, 2)}, api.EndReturn, 71},
	} {
		l := append([]api.Ins{put(0, 1), let(5, 6), call(1, 2)}, x.l...)
		y, e := Go(usual, target(2, block(ret(0), l...)), []int{5, 6}, nil, []int{70, 71}, []int{44}, 100)
		if e != api.OK || y.End != x.end || y.Value != x.want {
			t.Errorf("%v: %v, %d", x.l, y, e)
		}
	}
}

func TestEnds(t *testing.T) {
	for _, x := range []struct {
		end   api.Term
		a, to int
		kind  api.EndKind
		value int
	}{
		{end: jump(1), to: 1}, {end: jump(0), to: 0}, {end: jump(3), to: 3}, {end: branch(1, 1, 2), a: 1, to: 1}, {end: branch(1, 1, 2), a: -1, to: 1}, {end: branch(1, 1, 2), a: most, to: 1}, {end: branch(1, 1, 2), a: least, to: 1}, {end: branch(1, 1, 2), a: 1 << 32, to: 1},
		{end: branch(1, 1, 2), a: 0, to: 2}, {end: branch(1, 2, 0), a: 0, to: 0}, {end: branch(1, 0, 1), a: 2, to: 0}, {end: branch(1, 2, 2), a: 0, to: 2}, {end: branch(1, 2, 2), a: 1, to: 2}, {end: branch(1, 3, 3), a: 0, to: 3}, {end: branch(1, 0, 0), a: -1, to: 0},
		{end: ret(0), a: 5, kind: api.EndReturn, value: 5}, {end: ret(0), a: least, kind: api.EndReturn, value: least}, {end: ret(0), kind: api.EndReturn}, {end: ret(-1), a: 5, kind: api.EndReturn}, {end: stop(), a: 5, kind: api.EndTrap},
	} {
		y := steps(t, begins(t, given{usual, target(0, block(jump(3)), block(stop()), block(stop()), block(x.end, move(0, 1))), []int{x.a}, []int{7}, nil, nil}), 2)
		stands(t, y, 3, 1)
		steps(t, y, 1)
		became(t, y, run.Result{End: x.kind, Value: x.value, Mem: []int{7}, Steps: 3})
		holds(t, y, r(0, x.a), r(1, x.a), r(3, 0), r(4, 0))
		if x.kind == api.EndNone {
			stands(t, y, x.to, 0)
			continue
		}
		stands(t, y, 3, 1)
		ended(t, y)
	}
}

// What saved registers have counts at a return alone.
func TestSavedRegisters(t *testing.T) {
	for n, x := range []struct {
		m api.Machine
		l []api.Ins
		// is says whether they have their first values behind l.
		is bool
	}{
		{usual, nil, true}, {usual, []api.Ins{let(3, 6)}, true}, {usual, []api.Ins{let(3, 5)}, false}, {usual, []api.Ins{let(3, 0)}, false}, {usual, []api.Ins{let(4, 6)}, false}, {usual, []api.Ins{let(4, 7)}, true}, {usual, []api.Ins{let(3, 7), let(4, 6)}, false},
		{usual, []api.Ins{put(0, 3), let(3, 1), get(3, 0)}, true}, {usual, []api.Ins{put(0, 3), let(3, 1), get(4, 0)}, false}, {usual, []api.Ins{move(5, 4), move(4, 3), move(4, 5)}, true}, {usual, []api.Ins{move(4, 3)}, false}, {usual, []api.Ins{move(3, 3)}, true},
		{usual, []api.Ins{move(5, 3), call(1, 0), let(4, 7)}, true}, {usual, []api.Ins{let(3, 1), call(1, 0)}, false}, {usual, []api.Ins{two(api.OpAdd, 3, 3, 3), two(api.OpSub, 3, 3, 3)}, false}, {usual, []api.Ins{let(0, 1), let(1, 1), let(2, 1), let(5, 1)}, true},
		// Arguments that come in saved registers are their first values.
		{inSaved, nil, true}, {inSaved, []api.Ins{let(0, 6)}, false}, {inSaved, []api.Ins{let(0, 12)}, true}, {inSaved, []api.Ins{let(1, 7)}, false}, {inSaved, []api.Ins{let(1, 11)}, true}, {inSaved, []api.Ins{let(3, 1)}, true}, {inSaved, []api.Ins{call(1, 3)}, true},
		{inRet, nil, true}, {inRet, []api.Ins{let(1, 9)}, true}, {inRet, []api.Ins{let(0, 9)}, false}, {api.Machine{Regs: 6}, upToLet(6), true}, {great, nil, true}, {great, []api.Ins{let(63, 9)}, false}, {great, []api.Ins{let(63, 10)}, true}, {great, []api.Ins{let(62, 10)}, true}, {great, []api.Ins{let(60, 7), let(61, 0)}, true}, {great, []api.Ins{let(61, 7)}, false},
	} {
		args := []int{10, 11, 12, 13, 14, 15, 16, 17}[:len(x.m.Args)]
		for _, end := range []api.Term{ret(-1), ret(x.m.Ret), stop()} {
			l := x.l
			if end.A >= 0 {
				l = append(slices.Clone(l), let(x.m.Ret, 33))
			}
			y := steps(t, begins(t, given{x.m, target(1, block(end, l...)), args, nil, []int{99}, []int{6, 7}}), len(l))
			before := y.Result()
			was := []at{}
			for _, p := range places() {
				if n, ok := y.Loc(p); ok {
					was = append(was, at{p, n})
				}
			}
			want := run.Result{End: api.EndReturn, Calls: before.Calls, Steps: len(l) + 1}
			switch {
			case end == stop():
				want.End = api.EndTrap
			case !x.is:
				want.End = api.EndBroken
			case end.A >= 0:
				want.Value = 33
			}
			steps(t, y, 1)
			if !same(y.Result(), want) {
				t.Errorf("%d, %v: %v, not %v", n, end, y.Result(), want)
			}
			stands(t, y, 0, len(l))
			holds(t, y, was...)
			ended(t, y)
		}
	}
}

func upToLet(many int) (l []api.Ins) {
	for r := range many {
		l = append(l, let(r, 100+r))
	}
	return l
}

// First values that are not there are 0; those that there are too many of are nowhere.
func TestFirstValuesAtAReturn(t *testing.T) {
	for _, x := range []struct {
		first  []int
		a, b   int
		is     api.EndKind
		letToo bool
	}{
		{nil, 0, 0, api.EndReturn, true}, {nil, 0, 1, api.EndBroken, true}, {nil, 1, 0, api.EndBroken, true}, {[]int{5}, 5, 0, api.EndReturn, true}, {[]int{5}, 0, 0, api.EndBroken, true}, {[]int{5}, 5, 5, api.EndBroken, true},
		{[]int{5, 6}, 5, 6, api.EndReturn, true}, {[]int{5, 6}, 6, 5, api.EndBroken, true}, {[]int{5, 6, 7, 8}, 5, 6, api.EndReturn, true}, {[]int{5, 6, 7, 8}, 7, 8, api.EndBroken, true}, {[]int{5, 6, 7}, 0, 0, api.EndReturn, false},
	} {
		var l []api.Ins
		if x.letToo {
			l = []api.Ins{let(3, x.a), let(4, x.b)}
		}
		if y, e := Go(usual, target(0, block(ret(-1), l...)), nil, nil, nil, x.first, 9); e != api.OK || y.End != x.is || y.Value != 0 {
			t.Errorf("%v: %v, %d", x, y, e)
		}
	}
}

func TestATrapAmidABlock(t *testing.T) {
	for _, i := range []api.Ins{two(api.OpDiv, 1, 2, 5), two(api.OpDiv, 0, 5, 5), load(1, 2, 0), load(1, 5, -1), store(2, 0, 1), call(4, 1)} {
		g := given{usual, target(1, block(jump(1), put(0, 1)), block(ret(-1), let(5, 0), let(3, 8), store(5, 0, 1), i, let(1, 9), store(5, 1, 1))), []int{5, 7}, []int{1, 2}, nil, nil}
		y := steps(t, begins(t, g), 6)
		want := run.Result{End: api.EndTrap, Mem: []int{5, 2}, Steps: 6}
		if i.Op == api.OpCall {
			want.Calls = []api.Call{called(4, 5)}
		}
		became(t, y, want)
		stands(t, y, 1, 3)
		// Of a trap it counts for nothing that a saved register has another value.
		holds(t, y, r(1, 5), r(2, 7), r(3, 8), r(4, 0), r(5, 0), s(0, 5))
		ended(t, y)
	}
}

func TestWhereItStands(t *testing.T) {
	y := begins(t, given{m: usual, t: countdown(), args: []int{2}})
	for n, p := range []spot{{0, 0}, {0, 1}, {1, 0}, {2, 0}, {2, 1}, {1, 0}, {2, 0}, {2, 1}, {1, 0}, {3, 0}, {3, 1}} {
		stands(t, y, p.block, p.ins)
		became(t, y, run.Result{Steps: n})
		if !y.Step() {
			t.Error("it has ended")
		}
	}
	stands(t, y, 3, 1)
	became(t, y, run.Result{End: api.EndReturn, Steps: 11})
	ended(t, y)
	// Edges go back to block 0.
	round := begins(t, given{m: usual, t: ring()})
	for n := range 6 {
		stands(t, round, n%2, 0)
		steps(t, round, 1)
	}
	self := steps(t, begins(t, given{m: usual, t: target(0, block(jump(0), let(0, 1)))}), 1)
	stands(t, self, 0, 1)
	stands(t, steps(t, self, 1), 0, 0)
}

// All places there may be; what is at one lies apart from what is at others, a slot from the register of its number.
func TestAllPlaces(t *testing.T) {
	x, want := target(400, block(jump(1)), block(stop())), []at{}
	for n := range 400 {
		x.Blocks[0].Ins = append(x.Blocks[0].Ins, let(n%64, 1000+n), put(n, n%64))
		want = append(want, s(n, 1000+n))
	}
	for n := range 64 {
		x.Blocks[1].Ins = append(x.Blocks[1].Ins, get(n, 399-n))
		want = append(want, r(n, 1399-n))
	}
	y := steps(t, begins(t, given{m: great, t: x}), 865)
	became(t, y, run.Result{Steps: 865})
	holds(t, y, want...)
	ended(t, steps(t, y, 1))
}

// P9.3

func TestGo(t *testing.T) {
	two := api.Machine{Regs: 2}
	for n, x := range []struct {
		given
		fuel int
		want run.Result
	}{
		// The chapter's example, and DOC.md's fourth one.
		{given{m: two, t: target(0, block(ret(0), move(0, 1)))}, 9, run.Result{End: api.EndBroken, Steps: 1}},
		{given{m: usual, t: target(0, block(ret(0), call(3, 1), move(0, 1))), args: []int{5}, answers: []int{6}}, 9, run.Result{End: api.EndBroken, Calls: []api.Call{called(3, 5)}, Steps: 2}},
		{given{m: usual, t: target(0, block(ret(0), move(0, 1))), args: []int{8}, mem: []int{4}}, 9, run.Result{End: api.EndReturn, Value: 8, Mem: []int{4}, Steps: 2}},
		{given{m: usual, t: target(0, block(stop())), answers: []int{1}}, 9, run.Result{End: api.EndTrap, Steps: 1}},
		{given{m: usual, t: target(0, block(ret(-1))), mem: upTo(64)}, 9, run.Result{End: api.EndReturn, Mem: upTo(64), Steps: 1}},
	} {
		if y, e := Go(x.m, x.t, x.args, x.mem, x.answers, x.first, x.fuel); e != api.OK || !same(y, x.want) {
			t.Errorf("%d: %v, %d, not %v", n, y, e, x.want)
		}
	}
}

func TestFuel(t *testing.T) {
	for _, x := range []struct {
		t    api.Target
		arg  []int
		fuel int
		end  api.EndKind
		took int
	}{
		{ring(), nil, least, api.EndNone, 0}, {ring(), nil, -1, api.EndNone, 0}, {ring(), nil, 0, api.EndNone, 0}, {ring(), nil, 1, api.EndNone, 1}, {ring(), nil, 2, api.EndNone, 2}, {ring(), nil, 19999, api.EndNone, 19999}, {ring(), nil, 20000, api.EndNone, 20000},
		{countdown(), []int{0}, 0, api.EndNone, 0}, {countdown(), []int{0}, 4, api.EndNone, 4}, {countdown(), []int{0}, 5, api.EndReturn, 5}, {countdown(), []int{0}, 6, api.EndReturn, 5}, {countdown(), []int{0}, 20000, api.EndReturn, 5},
		{countdown(), []int{5}, 19, api.EndNone, 19}, {countdown(), []int{5}, 20, api.EndReturn, 20}, {countdown(), []int{5}, 21, api.EndReturn, 20},
		{countdown(), []int{6665}, 19999, api.EndNone, 19999}, {countdown(), []int{6665}, 20000, api.EndReturn, 20000}, {countdown(), []int{6666}, 20000, api.EndNone, 20000},
	} {
		if y, e := Go(usual, x.t, x.arg, nil, nil, nil, x.fuel); e != api.OK || y.End != x.end || y.Steps != x.took {
			t.Errorf("%v of %d: %v, %d", x.arg, x.fuel, y, e)
		}
	}
	for _, fuel := range []int{20001, 20002, 1 << 40, most} {
		if y, e := Go(usual, countdown(), []int{0}, []int{1}, nil, nil, fuel); !reflect.DeepEqual(y, run.Result{}) || e != api.ErrLong {
			t.Errorf("%d: %v, %d", fuel, y, e)
		}
	}
}

// A run that is stepped has no such bound.
func TestMoreStepsThanFuelMayBe(t *testing.T) {
	y := steps(t, begins(t, given{m: usual, t: ring()}), 3*api.MaxSteps)
	became(t, y, run.Result{Steps: 3 * api.MaxSteps})
}

// P9.4

func TestNoRun(t *testing.T) {
	was := steps(t, begins(t, given{usual, target(1, block(stop(), put(0, 1), let(3, 1))), []int{5}, []int{6}, nil, nil}), 1)
	taken := *was
	for _, x := range []*Run{nil, {}, new(Run), &taken} {
		for range 2 {
			b, i := x.At()
			n, ok := x.Loc(reg(1))
			k, is := x.Loc(slot(0))
			if x.Step() || b != 0 || i != 0 || n != 0 || ok || k != 0 || is || !reflect.DeepEqual(x.Result(), run.Result{}) {
				t.Errorf("%v: %d, %d, %d, %v, %d, %v, %v", x, b, i, n, ok, k, is, x.Result())
			}
		}
	}
	became(t, was, run.Result{Mem: []int{6}, Steps: 1})
	stands(t, was, 0, 1)
	holds(t, was, r(1, 5), r(3, 0), r(4, 0), s(0, 5))
	if x, e := Begin(usual, api.Target{}, nil, nil, nil, nil); x.Step() || e != api.ErrLong {
		t.Error("a step of no run")
	}
}

// P9.5

// Step by step against a run that is told as the chapter does.
func TestAgreesWithThePlainRun(t *testing.T) {
	d := dice(1)
	how := map[api.EndKind]int{}
	for range 12000 {
		g := d.beginning()
		y, p := begins(t, g), plainBegin(g)
		for range 30 {
			agrees(t, y, p)
			readsWhatThereIs(t, y, p)
			if y.Step() != p.step() {
				t.Fatalf("%v: %v", g, p.Result)
			}
		}
		how[p.End]++
	}
	for _, k := range []api.EndKind{api.EndNone, api.EndReturn, api.EndTrap, api.EndBroken} {
		if how[k] < 500 {
			t.Errorf("%d end with %d", how[k], k)
		}
	}
}

func agrees(t *testing.T, y *Run, p *plain) {
	t.Helper()
	if !same(y.Result(), p.Result) {
		t.Fatalf("%v: %v, not %v", p.given, y.Result(), p.Result)
	}
	b, i := y.At()
	if x := row(p.t)[p.at]; x.block != b || x.ins != i {
		t.Fatalf("%v: at %d, %d, not %v", p.given, b, i, x)
	}
	is := func(l api.Loc, want *int) {
		n, ok := y.Loc(l)
		if ok != (want != nil) || want != nil && n != *want || want == nil && n != 0 {
			t.Fatalf("%v: at %v is %d, %v", p.given, l, n, ok)
		}
	}
	for n, want := range p.regs {
		is(reg(n), want)
	}
	for n, want := range p.slots[:8] {
		is(slot(n), want)
	}
}

// readsWhatThereIs fails unless the next step of a run, if it does not end broken, reads what has values alone; what is inserted calls nobody, and changes no word of the memory.
func readsWhatThereIs(t *testing.T, y *Run, p *plain) {
	t.Helper()
	if y.Result().End != api.EndNone {
		return
	}
	b, n := y.At()
	reads, inserted := mir.Needs(p.t.Blocks[b].Term), false
	if n < len(p.t.Blocks[b].Ins) {
		i := p.t.Blocks[b].Ins[n]
		reads, inserted = mir.Reads(p.m, i), mir.Inserted(i.Op)
	}
	was, ahead := y.Result(), steps(t, begins(t, p.given), y.Result().Steps+1).Result()
	for _, l := range reads {
		if _, ok := y.Loc(l); !ok && (ahead.End != api.EndBroken || !slices.Equal(was.Mem, ahead.Mem) || len(was.Calls) != len(ahead.Calls)) {
			t.Fatalf("%v: %v is read at %d, %d, and has no value", p.given, l, b, n)
		}
	}
	if inserted && (!slices.Equal(was.Mem, ahead.Mem) || len(was.Calls) != len(ahead.Calls)) {
		t.Fatalf("%v: what is inserted at %d, %d makes %v of %v", p.given, b, n, ahead, was)
	}
}

// In n steps a run is where it is in the first n of more, each time.
func TestFewerStepsAreTheFirstOfMore(t *testing.T) {
	d := dice(2)
	for range 1000 {
		g := d.beginning()
		y := begins(t, g)
		for n := range 25 {
			for range 2 {
				if x, e := Go(g.m, g.t, g.args, g.mem, g.answers, g.first, n); e != api.OK || !reflect.DeepEqual(x, y.Result()) {
					t.Fatalf("%v: in %d steps %v, not %v", g, n, x, y.Result())
				}
			}
			y.Step()
		}
	}
}

// A run that returned has all saved registers as they were at first.
func TestWhatReturnsIsAsItWas(t *testing.T) {
	d, many := dice(5), 0
	for range 3000 {
		g := d.beginning()
		y, first := begins(t, g), begins(t, g)
		for range 30 {
			y.Step()
		}
		if y.Result().End != api.EndReturn {
			continue
		}
		for n := range g.m.Regs {
			a, has := first.Loc(reg(n))
			if b, ok := y.Loc(reg(n)); mach.IsSaved(g.m, n) && (!has || !ok || a != b) {
				t.Fatalf("%v: r%d was %d, is %d", g, n, a, b)
			}
			many++
		}
	}
	if many < 500 {
		t.Error("few return")
	}
}

// R3

// deep is what shares nothing with g.
func deep(g given) given {
	g.m.Args, g.m.Saved = slices.Clone(g.m.Args), slices.Clone(g.m.Saved)
	g.t.Blocks = slices.Clone(g.t.Blocks)
	for b := range g.t.Blocks {
		g.t.Blocks[b].Ins = slices.Clone(g.t.Blocks[b].Ins)
	}
	g.args, g.mem, g.answers, g.first = slices.Clone(g.args), slices.Clone(g.mem), slices.Clone(g.answers), slices.Clone(g.first)
	return g
}

// spoil changes all that may be changed.
func spoil(l []int) {
	for n := range l {
		l[n] = 5
	}
}

func (g given) spoil() {
	for _, l := range [][]int{g.args, g.mem, g.answers, g.first, g.m.Args, g.m.Saved} {
		spoil(l)
	}
	for b := range g.t.Blocks {
		for i := range g.t.Blocks[b].Ins {
			g.t.Blocks[b].Ins[i] = api.Ins{}
		}
		g.t.Blocks[b] = api.Block{}
	}
}

func TestWhatIsHandedInStaysAndIsNotKept(t *testing.T) {
	d := dice(3)
	for range 3000 {
		g := d.beginning()
		was, lent := deep(g), deep(g)
		y, spoilt := begins(t, g), begins(t, lent)
		lent.spoil()
		for range 25 {
			if y.Step() != spoilt.Step() || !reflect.DeepEqual(y.Result(), spoilt.Result()) {
				t.Fatalf("%v: %v, not %v", was, spoilt.Result(), y.Result())
			}
		}
		if _, e := Go(g.m, g.t, g.args, g.mem, g.answers, g.first, 25); e != api.OK || !reflect.DeepEqual(g, was) {
			t.Fatalf("%v was %v", g, was)
		}
	}
}

// What is told stays when the run goes on, and the run goes on the same when what was told is changed.
func TestWhatIsToldLiesApart(t *testing.T) {
	d := dice(4)
	for range 2000 {
		g := d.beginning()
		y, p := begins(t, g), plainBegin(g)
		for range 25 {
			kept, other, want := y.Result(), y.Result(), y.Result()
			spoil(other.Mem)
			for n := range other.Calls {
				spoil(other.Calls[n].Args)
				other.Calls[n] = called(-77)
			}
			y.Step()
			p.step()
			if !same(kept, want) || !same(y.Result(), p.Result) {
				t.Fatalf("%v: %v, %v, then %v", g, kept, want, y.Result())
			}
		}
	}
}

// Room behind what is told is not the run's either, nor is it behind what is handed in.
func TestRoomBehindIsNotShared(t *testing.T) {
	y := steps(t, begins(t, given{usual, target(0, block(stop(), call(1, 0), call(2, 0), call(3, 0), call(4, 0))), nil, []int{1}, []int{1, 2, 3, 4}, nil}), 3)
	told := y.Result()
	_, _ = append(told.Calls, called(9)), append(told.Mem, 9)
	steps(t, y, 1)
	became(t, y, run.Result{Mem: []int{1}, Calls: []api.Call{called(1), called(2), called(3), called(4)}, Steps: 4})
	mem := make([]int, 1, 64)
	at := steps(t, begins(t, given{usual, target(0, block(stop(), store(1, 0, 1))), []int{1}, mem, nil, nil}), 1)
	became(t, at, run.Result{End: api.EndTrap, Mem: []int{0}, Steps: 1})
	if mem[:2][1] != 0 {
		t.Error("it stored behind the memory")
	}
}

// Runs of one target go on apart from each other.
func TestRunsAreApart(t *testing.T) {
	g := given{usual, target(1, block(jump(0), put(0, 1), call(1, 1), let(5, 0), store(5, 0, 0), move(1, 0))), []int{5}, []int{0}, []int{6, 7}, nil}
	a, b := begins(t, g), begins(t, g)
	steps(t, a, 10)
	became(t, a, run.Result{Mem: []int{7}, Calls: []api.Call{called(1, 5), called(1, 6)}, Steps: 10})
	became(t, b, run.Result{Mem: []int{0}})
	holds(t, b, r(1, 5), r(3, 0), r(4, 0))
	steps(t, b, 4)
	became(t, b, run.Result{Mem: []int{6}, Calls: []api.Call{called(1, 5)}, Steps: 4})
	holds(t, b, r(0, 6), r(3, 0), r(4, 0), r(5, 0), s(0, 5))
	holds(t, a, r(0, 7), r(3, 0), r(4, 0), r(5, 0), s(0, 6))
}

// A saved register without a value, were there one, would be broken as well.
func TestASavedRegisterWithoutAValue(t *testing.T) {
	y := begins(t, given{m: usual, t: target(0, block(ret(-1)))})
	delete(y.values, reg(4))
	became(t, steps(t, y, 1), run.Result{End: api.EndBroken, Steps: 1})
}

// The longest block there may be.
func TestTheLongestBlock(t *testing.T) {
	all := slices.Repeat([]api.Ins{let(1, 1), let(2, 2), call(99, 2), move(5, 0)}, api.MaxTarget/4)
	answers := make([]int, 1000)
	answers[999] = 8
	y, e := Go(usual, target(0, block(ret(0), all...)), nil, make([]int, 64), answers, nil, api.MaxSteps)
	if e != api.OK || y.End != api.EndReturn || y.Value != 8 || y.Steps != 4001 || len(y.Calls) != 1000 {
		t.Error(y.End, y.Value, y.Steps, len(y.Calls), e)
	}
}
