package ir

import (
	"math"
	"reflect"
	"slices"
	"testing"

	"intarsia/api"
)

func jump(to int) api.Term        { return api.Term{Kind: api.TermJump, To: [2]int{to}} }
func branch(a, x, y int) api.Term { return api.Term{Kind: api.TermBranch, A: a, To: [2]int{x, y}} }
func ret(a int) api.Term          { return api.Term{Kind: api.TermReturn, A: a} }
func trap() api.Term              { return api.Term{Kind: api.TermTrap} }

func let(d, n int) api.Ins              { return api.Ins{Op: api.OpConst, Dst: d, Imm: n} }
func copyOf(d, a int) api.Ins           { return api.Ins{Op: api.OpCopy, Dst: d, A: a} }
func two(o api.Op, d, a, b int) api.Ins { return api.Ins{Op: o, Dst: d, A: a, B: b} }
func load(d, a, n int) api.Ins          { return api.Ins{Op: api.OpLoad, Dst: d, A: a, Imm: n} }
func store(a, n, b int) api.Ins         { return api.Ins{Op: api.OpStore, A: a, B: b, Imm: n} }
func call(d, callee int, args ...int) api.Ins {
	return api.Ins{Op: api.OpCall, Dst: d, Callee: callee, Args: args}
}

func block(t api.Term, l ...api.Ins) api.Block  { return api.Block{Ins: l, Term: t} }
func fun(params []int, l ...api.Block) api.Func { return api.Func{Params: params, Blocks: l} }

// vars are the variables from one to another one.
func vars(from, to int) (l []int) {
	for v := from; v <= to; v++ {
		l = append(l, v)
	}
	return l
}

// row is a function of that many blocks, each of which goes to the next one.
func row(many int) (f api.Func) {
	for b := 1; b < many; b++ {
		f.Blocks = append(f.Blocks, block(jump(b)))
	}
	f.Blocks = append(f.Blocks, block(ret(0)))
	return f
}

// deep is a function that shares nothing with f.
func deep(f api.Func) api.Func {
	f.Params, f.Blocks = slices.Clone(f.Params), slices.Clone(f.Blocks)
	for b := range f.Blocks {
		f.Blocks[b].Ins = slices.Clone(f.Blocks[b].Ins)
		for i := range f.Blocks[b].Ins {
			f.Blocks[b].Ins[i].Args = slices.Clone(f.Blocks[b].Ins[i].Args)
		}
	}
	return f
}

// P3.1

func TestWhatEachOpHas(t *testing.T) {
	for _, x := range []struct {
		i       api.Ins
		reads   []int
		defines int
	}{
		{let(7, 1), nil, 7}, {load(7, 8, 1), []int{8}, 7}, {store(7, 1, 8), []int{7, 8}, 0}, {copyOf(7, 8), []int{8}, 7},
		{call(7, 1, 9, 8, 9), []int{9, 8, 9}, 7}, {call(0, 1, 9), []int{9}, 0}, {call(7, 0), nil, 7}, {call(0, 0), nil, 0},
		{two(api.OpAdd, 7, 9, 8), []int{9, 8}, 7}, {two(api.OpSub, 7, 9, 8), []int{9, 8}, 7}, {two(api.OpMul, 7, 8, 8), []int{8, 8}, 7},
		{two(api.OpDiv, 7, 9, 8), []int{9, 8}, 7}, {two(api.OpAnd, 7, 9, 8), []int{9, 8}, 7}, {two(api.OpOr, 7, 7, 7), []int{7, 7}, 7},
		{two(api.OpXor, 7, 9, 8), []int{9, 8}, 7}, {two(api.OpLess, 7, 9, 8), []int{9, 8}, 7}, {two(api.OpSame, 7, 9, 8), []int{9, 8}, 7},
		{let(1, -api.MaxImm), nil, 1}, {let(200, api.MaxImm), nil, 200}, {load(1, 200, -api.MaxImm), []int{200}, 1}, {store(200, api.MaxImm, 1), []int{200, 1}, 0},
		{call(200, 99, 1, 2, 3, 4, 5, 6, 7, 200), []int{1, 2, 3, 4, 5, 6, 7, 200}, 200},
		{api.Ins{Op: api.OpCopy, Dst: 1, A: 1, Args: []int{}}, []int{1}, 1},
	} {
		if !IsIns(x.i) || !slices.Equal(Reads(x.i), x.reads) || Defines(x.i) != x.defines {
			t.Errorf("%v: right %v, reads %v, defines %d", x.i, IsIns(x.i), Reads(x.i), Defines(x.i))
		}
	}
}

func TestInsThatAreNotRight(t *testing.T) {
	for _, i := range []api.Ins{
		{}, {Op: 18, Dst: 1, A: 1, B: 1}, {Op: -1, Dst: 1, A: 1}, {Op: api.OpMove, Dst: 1, A: 1}, {Op: api.OpPut, A: 1, Imm: 1}, {Op: api.OpGet, Dst: 1, Imm: 1},
		let(0, 1), let(201, 1), let(-1, 1), let(math.MinInt, 1), let(math.MaxInt, 1), let(1, api.MaxImm+1), let(1, -api.MaxImm-1), let(1, math.MinInt), let(1, math.MaxInt),
		load(0, 1, 1), load(1, 0, 1), load(1, 201, 1), load(1, 1, api.MaxImm+1), store(0, 1, 1), store(1, 1, 0), store(1, 1, 201), store(1, -api.MaxImm-1, 1),
		copyOf(0, 1), copyOf(1, 0), copyOf(-1, 1), two(api.OpAdd, 0, 1, 1), two(api.OpSame, 1, 0, 1), two(api.OpLess, 1, 1, 0), two(api.OpDiv, 1, 1, 201),
		call(-1, 1), call(201, 1), call(1, -1), call(1, 100), call(1, 1, 0), call(1, 1, 2, 201), call(1, 1, -1), call(1, 1, 1, 2, 3, 4, 5, 6, 7, 8, 9),
		call(1, 1, make([]int, 1<<20)...),
	} {
		if IsIns(i) || Reads(i) != nil || Defines(i) != 0 {
			t.Errorf("%v: right %v, reads %v, defines %d", i, IsIns(i), Reads(i), Defines(i))
		}
	}
}

// All Ops with all that an instruction may have, more or less than its own.
func TestAgreesWithThePlainInstruction(t *testing.T) {
	ends := []int{-1, 0, 1, 200, 201}
	imms := []int{-api.MaxImm - 1, -api.MaxImm, 0, api.MaxImm, api.MaxImm + 1}
	callees := []int{-1, 0, 99, 100}
	rows := [][]int{nil, {3}, {0}, {201, 1}, vars(1, 8), vars(1, 9)}
	try := func(i api.Ins) {
		want := plainIsIns(i)
		if IsIns(i) != want {
			t.Fatalf("%v: right %v", i, !want)
		}
		defines := 0
		if want {
			defines = i.Dst
		}
		if !slices.Equal(Reads(i), plainReads(i)) || Defines(i) != defines {
			t.Fatalf("%v: reads %v, defines %d", i, Reads(i), Defines(i))
		}
	}
	for o := api.Op(-1); o < 19; o++ {
		for _, d := range ends {
			for _, a := range ends {
				for _, b := range ends {
					for _, imm := range imms {
						for _, callee := range callees {
							for _, args := range rows {
								try(api.Ins{Op: o, Dst: d, A: a, B: b, Imm: imm, Callee: callee, Args: args})
							}
						}
					}
					try(api.Ins{Op: o, Dst: d, A: a, B: b, Many: 1})
					try(api.Ins{Op: o, Dst: d, A: a, B: b, Many: -1})
				}
			}
		}
	}
}

func TestEnds(t *testing.T) {
	for _, x := range []struct {
		t         api.Term
		needs, to []int
	}{
		{jump(3), nil, []int{3}}, {jump(0), nil, []int{0}}, {jump(-1), nil, []int{-1}}, {jump(math.MaxInt), nil, []int{math.MaxInt}},
		{branch(7, 3, 2), []int{7}, []int{3, 2}}, {branch(1, 5, 5), []int{1}, []int{5, 5}}, {branch(200, 0, 0), []int{200}, []int{0, 0}}, {branch(1, -1, 1<<40), []int{1}, []int{-1, 1 << 40}},
		{ret(7), []int{7}, nil}, {ret(200), []int{200}, nil}, {ret(0), nil, nil}, {trap(), nil, nil},
	} {
		if !IsTerm(x.t) || !slices.Equal(Needs(x.t), x.needs) || !slices.Equal(To(x.t), x.to) {
			t.Errorf("%v: right %v, needs %v, to %v", x.t, IsTerm(x.t), Needs(x.t), To(x.t))
		}
	}
	for _, x := range []api.Term{
		{}, {Kind: 5}, {Kind: -1}, {Kind: 5, A: 1, To: [2]int{1, 1}}, {Kind: api.TermJump, A: 1, To: [2]int{1}}, {Kind: api.TermJump, To: [2]int{1, 1}},
		branch(0, 1, 2), branch(201, 1, 2), branch(-1, 1, 2), ret(201), ret(-1), {Kind: api.TermReturn, A: 1, To: [2]int{1}}, {Kind: api.TermReturn, To: [2]int{0, 1}},
		{Kind: api.TermTrap, A: 1}, {Kind: api.TermTrap, To: [2]int{1}}, {Kind: api.TermTrap, To: [2]int{0, -1}},
	} {
		if IsTerm(x) || Needs(x) != nil || To(x) != nil {
			t.Errorf("%v: right %v, needs %v, to %v", x, IsTerm(x), Needs(x), To(x))
		}
	}
}

func TestAgreesWithThePlainEnd(t *testing.T) {
	for k := api.TermKind(-1); k < 7; k++ {
		for _, a := range []int{math.MinInt, -1, 0, 1, 200, 201, math.MaxInt} {
			for _, x := range []int{-1, 0, 1, 200, math.MaxInt} {
				for _, y := range []int{math.MinInt, -1, 0, 1, 64} {
					e := api.Term{Kind: k, A: a, To: [2]int{x, y}}
					if IsTerm(e) != plainIsTerm(e) || !slices.Equal(Needs(e), plainNeeds(e)) || !slices.Equal(To(e), plainTo(e)) {
						t.Fatalf("%v: right %v, needs %v, to %v", e, IsTerm(e), Needs(e), To(e))
					}
				}
			}
		}
	}
}

func TestWhatIsReadIsNewMemory(t *testing.T) {
	i := call(1, 2, 3, 4)
	Reads(i)[0] = 9
	if !slices.Equal(i.Args, []int{3, 4}) || !slices.Equal(Reads(i), []int{3, 4}) {
		t.Error(i, Reads(i))
	}
	e := branch(1, 2, 3)
	To(e)[0], Needs(e)[0] = 9, 9
	if !slices.Equal(To(e), []int{2, 3}) || !slices.Equal(Needs(e), []int{1}) {
		t.Error(To(e), Needs(e))
	}
}

// P3.2

func TestRightOfOneBlock(t *testing.T) {
	for n, x := range []struct {
		f api.Func
		e api.Errno
	}{
		{fun(nil, block(ret(1), let(1, 5))), api.OK}, {fun(nil, block(ret(2), let(1, 5))), api.ErrVar}, {fun([]int{}, block(trap(), []api.Ins{}...)), api.OK},
		{fun([]int{2}, block(ret(2), let(1, 5))), api.OK}, {fun([]int{200}, block(ret(200))), api.OK}, {fun(nil, block(ret(1))), api.ErrVar},
		{fun(nil, block(ret(1), copyOf(1, 1))), api.ErrVar}, {fun(nil, block(ret(1), let(1, 0), copyOf(1, 1))), api.OK}, {fun(nil, block(ret(0), copyOf(2, 1), let(1, 0))), api.ErrVar},
		{fun([]int{1}, block(ret(0), two(api.OpAdd, 3, 1, 2))), api.ErrVar}, {fun([]int{2}, block(ret(0), two(api.OpAdd, 3, 1, 2))), api.ErrVar}, {fun([]int{2, 1}, block(ret(3), two(api.OpAdd, 3, 1, 2))), api.OK},
		{fun([]int{1}, block(ret(0), store(1, 0, 2))), api.ErrVar}, {fun([]int{2}, block(ret(0), store(1, 0, 2))), api.ErrVar}, {fun([]int{1}, block(ret(0), load(2, 3, 0))), api.ErrVar},
		{fun([]int{1}, block(ret(0), call(2, 0, 1, 2))), api.ErrVar}, {fun([]int{1}, block(ret(2), call(2, 0, 1, 1))), api.OK}, {fun([]int{1}, block(ret(2), call(0, 0, 1))), api.ErrVar},
		{fun([]int{63, 64, 65, 127, 128, 129, 191, 192}, block(ret(0), call(0, 0, 63, 64, 65, 127, 128, 129, 191, 192))), api.OK},
	} {
		if e := Right(x.f); e != x.e {
			t.Errorf("%d: %v is %d", n, x.f, e)
		}
	}
}

func TestRightCountsEachVariableByItself(t *testing.T) {
	for v := 1; v <= api.MaxVars; v++ {
		for other := 1; other <= api.MaxVars; other++ {
			want := api.OK
			if v != other {
				want = api.ErrVar
			}
			if Right(fun([]int{v}, block(ret(other)))) != want || Right(fun(nil, block(ret(other), let(v, 0)))) != want {
				t.Fatalf("v%d for v%d", v, other)
			}
		}
	}
}

func TestRightOfMoreThanMayBe(t *testing.T) {
	full := make([]api.Ins, api.MaxIns)
	for i := range full {
		full[i] = let(1, i)
	}
	last := row(api.MaxAll)
	last.Blocks[api.MaxAll-1].Ins = append(slices.Clone(full), let(1, 0))
	bad := row(2)
	bad.Blocks[0].Ins = append(slices.Clone(full), api.Ins{})
	for n, x := range []struct {
		f api.Func
		e api.Errno
	}{
		{api.Func{}, api.ErrLong}, {fun([]int{0, 0}), api.ErrLong}, {row(1), api.OK}, {row(api.MaxAll), api.OK}, {row(api.MaxAll + 1), api.ErrLong},
		{fun(vars(1, 8), block(ret(8))), api.OK}, {fun(vars(1, 9), block(ret(8))), api.ErrLong}, {fun(make([]int, 9), block(ret(8))), api.ErrLong},
		{fun(nil, block(ret(1), full...)), api.OK}, {fun(nil, block(ret(1), append(slices.Clone(full), let(1, 0))...)), api.ErrLong}, {last, api.ErrLong}, {bad, api.ErrLong},
		{api.Func{Blocks: make([]api.Block, api.MaxAll)}, api.ErrArg}, {api.Func{Blocks: make([]api.Block, api.MaxAll+1)}, api.ErrLong}, {fun(make([]int, 1<<20), block(ret(0))), api.ErrLong},
	} {
		if e := Right(x.f); e != x.e {
			t.Errorf("%d: %d", n, e)
		}
	}
}

func TestRightOfWrongParts(t *testing.T) {
	for _, x := range []api.Func{
		fun([]int{1, 1}, block(ret(0))), fun([]int{1, 2, 3, 4, 5, 6, 7, 1}, block(ret(0))), fun([]int{0}, block(ret(0))), fun([]int{-1}, block(ret(0))), fun([]int{201}, block(ret(0))), fun([]int{math.MinInt}, block(ret(0))),
		fun([]int{1, 0}, block(ret(0))), fun(nil, block(ret(0), let(1, 1), let(0, 1))), fun(nil, block(ret(-1))), fun(nil, block(api.Term{})), fun(nil, block(ret(0), api.Ins{Op: api.OpMove, Dst: 1, A: 1})),
		// ErrArg is named ahead of ErrBlock and ErrVar, wherever it stands.
		fun(nil, block(jump(0)), block(api.Term{})), fun(nil, block(jump(7), copyOf(1, 2)), block(ret(0), api.Ins{})), fun([]int{3, 3}, block(branch(1, 0, 9))),
	} {
		if e := Right(x); e != api.ErrArg {
			t.Errorf("%v is %d", x, e)
		}
	}
}

func TestRightOfEdges(t *testing.T) {
	for _, x := range []struct {
		f api.Func
		e api.Errno
	}{
		{fun(nil, block(jump(0))), api.ErrBlock}, {fun(nil, block(jump(1))), api.ErrBlock}, {fun(nil, block(jump(-1))), api.ErrBlock}, {fun(nil, block(jump(math.MinInt))), api.ErrBlock},
		{fun([]int{1}, block(branch(1, 1, 0)), block(ret(0))), api.ErrBlock}, {fun([]int{1}, block(branch(1, 0, 1)), block(ret(0))), api.ErrBlock},
		{fun([]int{1}, block(branch(1, 1, 2)), block(ret(0))), api.ErrBlock}, {fun([]int{1}, block(branch(1, 2, 1)), block(ret(0))), api.ErrBlock}, {fun([]int{1}, block(branch(1, 1, 1)), block(ret(0))), api.OK},
		{fun(nil, block(jump(1)), block(jump(1))), api.OK}, {fun(nil, block(jump(1)), block(jump(0))), api.ErrBlock}, {fun(nil, block(ret(0)), block(jump(2))), api.ErrBlock},
		{fun(nil, block(ret(0)), block(ret(0))), api.ErrBlock}, {fun(nil, block(ret(0)), block(jump(1))), api.ErrBlock}, {fun(nil, block(trap()), block(jump(2)), block(jump(1))), api.ErrBlock},
		{fun(nil, block(jump(2)), block(ret(0)), block(jump(1))), api.OK}, {fun([]int{1}, block(branch(1, 1, 3)), block(ret(0)), block(ret(0)), block(ret(0))), api.ErrBlock},
		// ErrBlock is named ahead of ErrVar, wherever it stands.
		{fun(nil, block(jump(1), copyOf(1, 2)), block(jump(0))), api.ErrBlock}, {fun(nil, block(ret(5)), block(ret(5))), api.ErrBlock}, {fun(nil, block(branch(5, 1, 2)), block(ret(0))), api.ErrBlock},
	} {
		if e := Right(x.f); e != x.e {
			t.Errorf("%v is %d", x.f, e)
		}
	}
}

func TestRightOfArmsAndLoops(t *testing.T) {
	diamond := func(one, two, last api.Block) api.Func {
		return fun([]int{1}, block(branch(1, 1, 2)), one, two, last)
	}
	loop := func(ahead, in, behind []api.Ins, e api.Term) api.Func {
		return fun([]int{1}, block(jump(1), ahead...), block(branch(1, 2, 3)), block(jump(1), in...), block(e, behind...))
	}
	sum, l2, l3 := []api.Ins{two(api.OpAdd, 2, 2, 1)}, []api.Ins{let(2, 0)}, []api.Ins{let(3, 0)}
	for n, x := range []struct {
		f api.Func
		e api.Errno
	}{
		{diamond(block(jump(3), let(2, 1)), block(jump(3), let(2, 2)), block(ret(2))), api.OK}, {diamond(block(jump(3), let(2, 1)), block(jump(3)), block(ret(2))), api.ErrVar},
		{diamond(block(jump(3)), block(jump(3), let(2, 1)), block(ret(2))), api.ErrVar}, {diamond(block(jump(3), let(2, 1)), block(trap()), block(ret(2))), api.OK},
		{diamond(block(jump(3), let(2, 1)), block(jump(3)), block(ret(1))), api.OK}, {diamond(block(jump(3), let(2, 1)), block(ret(2)), block(ret(2))), api.ErrVar},
		{loop(l2, sum, nil, ret(2)), api.OK}, {loop(nil, sum, nil, ret(0)), api.ErrVar}, {loop(nil, l2, nil, ret(2)), api.ErrVar}, {loop(nil, append(slices.Clone(l2), sum...), nil, ret(0)), api.OK},
		{loop(nil, append(slices.Clone(sum), l2...), nil, ret(0)), api.ErrVar}, {loop(l3, l2, []api.Ins{copyOf(2, 3)}, ret(2)), api.OK}, {loop(nil, l2, nil, jump(2)), api.OK}, {loop(nil, nil, sum, ret(0)), api.ErrVar},
	} {
		if e := Right(x.f); e != x.e {
			t.Errorf("%d: %d", n, e)
		}
	}
}

// small tells do functions of three blocks: all ends and some instructions.
func small(do func(f api.Func)) {
	var l []api.Block
	for _, e := range []api.Term{ret(2), trap(), jump(1), jump(2), branch(1, 1, 2), branch(2, 2, 1), branch(2, 1, 3)} {
		for _, i := range [][]api.Ins{nil, {let(2, 0)}, {copyOf(2, 1)}, {two(api.OpAdd, 1, 2, 2)}, {call(0, 1, 2), let(1, 1)}} {
			l = append(l, block(e, i...))
		}
	}
	for _, params := range [][]int{nil, {1}, {2, 1}} {
		for _, a := range l {
			for _, b := range l {
				for _, c := range l {
					do(fun(params, a, b, c))
				}
			}
		}
	}
}

func TestAgreesWithAllWays(t *testing.T) {
	many := map[api.Errno]int{}
	small(func(f api.Func) {
		e := Right(f)
		many[e]++
		if want := plainRight(f); e != want {
			t.Fatalf("%v is %d, not %d", f, e, want)
		}
	})
	for _, e := range []api.Errno{api.OK, api.ErrBlock, api.ErrVar} {
		if many[e] < 100 {
			t.Errorf("%d of %d", many[e], e)
		}
	}
}

// Blocks in a row from the last one to the first one, of which the last one defines what the first one returns: where the row is entered later, that has no value.
func TestRightOfManyBlocks(t *testing.T) {
	const last = api.MaxAll - 1
	try := func(begin api.Term, want api.Errno) {
		f := fun([]int{1}, block(begin), block(branch(2, last, 2)), block(branch(1, 1, 3)))
		for b := 3; b <= last; b++ {
			f.Blocks = append(f.Blocks, block(jump(b-1)))
		}
		f.Blocks[last].Ins = []api.Ins{let(2, 1)}
		if e := Right(f); e != want {
			t.Errorf("%v: %d", begin, e)
		}
	}
	try(jump(last), api.OK)
	try(branch(1, last, last), api.OK)
	for b := 1; b < last; b++ {
		try(branch(1, last, b), api.ErrVar)
		try(branch(1, b, last), api.ErrVar)
	}
}

// P3.3

func TestVarsMostSize(t *testing.T) {
	long := fun(vars(1, 9), block(ret(0)))
	for n, x := range []struct {
		f                    api.Func
		vars                 []int
		operands, args, size int
	}{
		{fun(nil, block(ret(0))), nil, 0, 0, 1}, {fun(nil, block(trap())), nil, 0, 0, 1}, {fun(nil, block(ret(0), let(9, 1))), []int{9}, 0, 0, 2}, {fun(nil, block(jump(1)), block(ret(0))), nil, 0, 0, 2},
		{fun(nil, block(ret(7))), []int{7}, 1, 0, 1}, {fun(nil, block(branch(200, 0, 0))), []int{200}, 1, 0, 1}, {fun(nil, block(ret(0), load(3, 2, 0))), []int{2, 3}, 1, 0, 2},
		{fun(nil, block(ret(0), copyOf(2, 3))), []int{2, 3}, 1, 0, 2}, {fun(nil, block(ret(0), store(64, 0, 63))), []int{63, 64}, 2, 0, 2}, {fun(nil, block(ret(0), two(api.OpSame, 1, 1, 1))), []int{1}, 2, 0, 2},
		{fun([]int{5, 1}, block(ret(0))), []int{1, 5}, 0, 2, 1}, {fun([]int{5}, block(ret(0), call(0, 9, 4, 4, 4))), []int{4, 5}, 0, 3, 2}, {fun([]int{6, 3, 2}, block(ret(0), call(9, 9, 4))), []int{2, 3, 4, 6, 9}, 0, 3, 2},
		{fun(nil, block(ret(0), call(0, 9, 1, 2, 3, 4, 5, 6, 7, 8))), vars(1, 8), 0, 8, 2}, {fun(nil, block(ret(0), call(8, 9))), []int{8}, 0, 0, 2},
		// ErrBlock, ErrVar: these are told all the same, of blocks that are not reached, too.
		{fun(nil, block(ret(0)), block(jump(-5), two(api.OpAdd, 1, 9, 3)), block(branch(2, 0, 7))), []int{1, 2, 3, 9}, 2, 0, 4}, {fun([]int{1}, block(ret(9))), []int{1, 9}, 1, 1, 1},
		// ErrLong, ErrArg: nothing is.
		{api.Func{}, nil, 0, 0, 0}, {fun([]int{1}), nil, 0, 0, 0}, {long, nil, 0, 0, 0}, {row(api.MaxAll + 1), nil, 0, 0, 0}, {row(api.MaxAll), nil, 0, 0, api.MaxAll},
		{fun([]int{1, 1}, block(ret(1))), nil, 0, 0, 0}, {fun(nil, block(ret(1), api.Ins{})), nil, 0, 0, 0}, {fun([]int{1}, block(ret(1), two(api.OpAdd, 1, 1, 1)), block(api.Term{})), nil, 0, 0, 0},
		{fun([]int{1}, block(ret(1), make([]api.Ins, 65)...)), nil, 0, 0, 0}, {fun([]int{0}, block(ret(1))), nil, 0, 0, 0},
	} {
		operands, args := Most(x.f)
		if !slices.Equal(Vars(x.f), x.vars) || operands != x.operands || args != x.args || Size(x.f) != x.size {
			t.Errorf("%d: %v, %d, %d, %d", n, Vars(x.f), operands, args, Size(x.f))
		}
	}
}

func TestAllVars(t *testing.T) {
	f := fun(nil)
	for b := range 4 {
		f.Blocks = append(f.Blocks, block(trap()))
		for n := range 50 {
			f.Blocks[b].Ins = append(f.Blocks[b].Ins, let(api.MaxVars-50*b-n, 0))
		}
	}
	if !slices.Equal(Vars(f), vars(1, api.MaxVars)) || Size(f) != api.MaxVars+4 {
		t.Error(Vars(f), Size(f))
	}
	Vars(f)[0] = 9
	if Vars(f)[0] != 1 {
		t.Error("what is told is kept")
	}
}

func TestAgreesWithPlainCounts(t *testing.T) {
	small(func(f api.Func) {
		operands, args := Most(f)
		wantOperands, wantArgs := plainMost(f)
		if !slices.Equal(Vars(f), plainVars(f)) || operands != wantOperands || args != wantArgs || Size(f) != plainSize(f) {
			t.Fatalf("%v: %v, %d, %d, %d", f, Vars(f), operands, args, Size(f))
		}
	})
}

// P3.4

func TestRightFunctionsReadWhatWasDefined(t *testing.T) {
	small(func(f api.Func) {
		if e := Right(f); e == api.OK || e == api.ErrVar {
			all := ways(f, 5, func(way []int) bool { return sound(f, way) })
			if all != (e == api.OK) {
				t.Fatalf("%v is %d", f, e)
			}
		}
	})
}

// R3, R4

func TestNothingIsChangedAndAllToldAlike(t *testing.T) {
	n := 0
	small(func(f api.Func) {
		if n++; n%100 != 0 {
			return
		}
		was := deep(f)
		tell := func() []any {
			operands, args := Most(f)
			l := []any{Right(f), Vars(f), operands, args, Size(f)}
			for _, b := range f.Blocks {
				l = append(l, IsTerm(b.Term), Needs(b.Term), To(b.Term))
				for _, i := range b.Ins {
					l = append(l, IsIns(i), Reads(i), Defines(i))
				}
			}
			return l
		}
		if one, other := tell(), tell(); !reflect.DeepEqual(one, other) {
			t.Fatalf("%v, then %v", one, other)
		}
		if !reflect.DeepEqual(deep(f), was) {
			t.Fatalf("%v was %v", f, was)
		}
	})
}
