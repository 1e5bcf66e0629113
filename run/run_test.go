package run

import (
	"math"
	"reflect"
	"slices"
	"testing"

	"intarsia/api"
	"intarsia/ir"
)

func jump(to int) api.Term        { return api.Term{Kind: api.TermJump, To: [2]int{to}} }
func branch(a, x, y int) api.Term { return api.Term{Kind: api.TermBranch, A: a, To: [2]int{x, y}} }
func ret(a int) api.Term          { return api.Term{Kind: api.TermReturn, A: a} }
func stop() api.Term              { return api.Term{Kind: api.TermTrap} }

func let(d, n int) api.Ins              { return api.Ins{Op: api.OpConst, Dst: d, Imm: n} }
func copyOf(d, a int) api.Ins           { return api.Ins{Op: api.OpCopy, Dst: d, A: a} }
func two(o api.Op, d, a, b int) api.Ins { return api.Ins{Op: o, Dst: d, A: a, B: b} }
func load(d, a, n int) api.Ins          { return api.Ins{Op: api.OpLoad, Dst: d, A: a, Imm: n} }
func store(a, n, b int) api.Ins         { return api.Ins{Op: api.OpStore, A: a, B: b, Imm: n} }
func call(d, callee int, args ...int) api.Ins {
	return api.Ins{Op: api.OpCall, Dst: d, Callee: callee, Args: args}
}

func block(t api.Term, l ...api.Ins) api.Block  { return api.Block{Ins: l, Term: t} }
func fun(params []int, l ...api.Block) api.Func { return api.Func{Params: params, Blocks: l} }

func called(callee int, args ...int) api.Call { return api.Call{Callee: callee, Args: args} }

// ring goes round for ever, in two steps a round.
func ring() api.Func { return fun(nil, block(jump(1)), block(jump(1), let(1, 1))) }

// countdown returns its parameter's number of rounds, in three steps each, and three more.
func countdown() api.Func {
	return fun([]int{1}, block(jump(1), let(2, 1)), block(branch(1, 2, 3)), block(jump(1), two(api.OpSub, 1, 1, 2)), block(ret(1)))
}

// most, least are the ends of all numbers.
const (
	most  = math.MaxInt
	least = math.MinInt
)

// same holds two results against each other; no list and one without elements are one.
func same(r, s Result) bool {
	sameCall := func(c, d api.Call) bool { return c.Callee == d.Callee && slices.Equal(c.Args, d.Args) }
	return r.End == s.End && r.Value == s.Value && r.Steps == s.Steps && slices.Equal(r.Mem, s.Mem) && slices.EqualFunc(r.Calls, s.Calls, sameCall)
}

// begins fails unless a run begins.
func begins(t *testing.T, f api.Func, args, mem, answers []int) *Run {
	t.Helper()
	r, e := Begin(f, args, mem, answers)
	if r == nil || e != api.OK {
		t.Fatalf("%v of %v, %v, %v: %v, %d", f, args, mem, answers, r, e)
	}
	return r
}

// steps does that many steps, all of which there must be.
func steps(t *testing.T, r *Run, many int) *Run {
	t.Helper()
	for n := range many {
		if !r.Step() {
			t.Fatalf("no step behind %d: %v", n, r.Result())
		}
	}
	return r
}

// stands fails unless a run stands there.
func stands(t *testing.T, r *Run, block, ins int) {
	t.Helper()
	if b, i := r.At(); b != block || i != ins {
		t.Errorf("it stands at %d, %d, not at %d, %d: %v", b, i, block, ins, r.Result())
	}
}

// became fails unless that became of a run.
func became(t *testing.T, r *Run, want Result) {
	t.Helper()
	if !same(r.Result(), want) {
		t.Errorf("%v, not %v", r.Result(), want)
	}
}

// holds fails unless of the variables from -2 to 203 just these have values: as many as there are, each behind its variable.
func holds(t *testing.T, r *Run, pairs ...int) {
	t.Helper()
	for v := -2; v <= 203; v++ {
		want, is := 0, false
		for n := 0; n < len(pairs); n += 2 {
			if pairs[n] == v {
				want, is = pairs[n+1], true
			}
		}
		if n, ok := r.Var(v); n != want || ok != is {
			t.Errorf("v%d: %d, %v, not %d, %v", v, n, ok, want, is)
		}
	}
}

// ended fails unless nothing is done any more, and all stays.
func ended(t *testing.T, r *Run) {
	t.Helper()
	look := func() []any {
		b, i := r.At()
		l := []any{r.Result(), b, i}
		for v := range 203 {
			n, ok := r.Var(v)
			l = append(l, n, ok)
		}
		return l
	}
	was := look()
	for range 3 {
		if r.Step() || !reflect.DeepEqual(look(), was) {
			t.Errorf("it goes on: %v, %v", was, look())
		}
	}
}

// P8.1

func TestCalc(t *testing.T) {
	for _, x := range []struct {
		o          api.Op
		a, b, want int
		is         bool
	}{
		{api.OpAdd, 2, 3, 5, true}, {api.OpAdd, most, 1, least, true}, {api.OpAdd, least, -1, most, true}, {api.OpAdd, least, least, 0, true},
		{api.OpSub, 2, 3, -1, true}, {api.OpSub, least, 1, most, true}, {api.OpSub, most, -1, least, true}, {api.OpSub, 0, least, least, true},
		{api.OpMul, -3, 4, -12, true}, {api.OpMul, most, 2, -2, true}, {api.OpMul, least, -1, least, true}, {api.OpMul, 1 << 32, 1 << 32, 0, true},
		{api.OpDiv, 7, 2, 3, true}, {api.OpDiv, -7, 2, -3, true}, {api.OpDiv, 7, -2, -3, true}, {api.OpDiv, -7, -2, 3, true}, {api.OpDiv, 1, 2, 0, true}, {api.OpDiv, 0, 5, 0, true},
		{api.OpDiv, least, -1, least, true}, {api.OpDiv, least, 1, least, true}, {api.OpDiv, most, -1, -most, true},
		{api.OpDiv, 7, 0, 0, false}, {api.OpDiv, 0, 0, 0, false}, {api.OpDiv, least, 0, 0, false},
		{api.OpAnd, 12, 10, 8, true}, {api.OpAnd, -1, least, least, true}, {api.OpOr, 12, 10, 14, true}, {api.OpOr, least, 1, least + 1, true}, {api.OpXor, 12, 10, 6, true}, {api.OpXor, -1, most, least, true},
		{api.OpLess, 2, 3, 1, true}, {api.OpLess, 3, 3, 0, true}, {api.OpLess, 3, 2, 0, true}, {api.OpLess, least, most, 1, true}, {api.OpLess, most, least, 0, true}, {api.OpLess, -1, 0, 1, true},
		{api.OpSame, 3, 3, 1, true}, {api.OpSame, 3, -3, 0, true}, {api.OpSame, least, least, 1, true}, {api.OpSame, least, most, 0, true},
		{0, 1, 1, 0, false}, {api.OpConst, 1, 1, 0, false}, {api.OpLoad, 1, 1, 0, false}, {api.OpStore, 1, 1, 0, false}, {api.OpCall, 1, 1, 0, false}, {api.OpCopy, 1, 1, 0, false},
		{api.OpMove, 1, 1, 0, false}, {api.OpPut, 1, 1, 0, false}, {api.OpGet, 1, 1, 0, false}, {18, 1, 1, 0, false}, {-1, 1, 1, 0, false}, {least, 1, 1, 0, false}, {most, 1, 1, 0, false},
	} {
		if n, ok := Calc(x.o, x.a, x.b); n != x.want || ok != x.is {
			t.Errorf("%d of %d, %d: %d, %v, not %d, %v", x.o, x.a, x.b, n, ok, x.want, x.is)
		}
	}
}

func TestCalcAgreesWithNumbersOfAnySize(t *testing.T) {
	numbers := []int{0, 1, -1, 2, -2, 3, -3, 7, -7, 10, 12, 63, 64, 1 << 31, -1 << 31, 1<<32 + 1, 3037000500, -3037000500, 1 << 40, 1 << 62, -1 << 62, most, most - 1, least, least + 1}
	for o := api.Op(-2); o < 21; o++ {
		for _, a := range numbers {
			for _, b := range numbers {
				want, is := plainCalc(o, a, b)
				if n, ok := Calc(o, a, b); n != want || ok != is {
					t.Errorf("%d of %d, %d: %d, %v, not %d, %v", o, a, b, n, ok, want, is)
				}
			}
		}
	}
}

func TestWhatCanNotBegin(t *testing.T) {
	one := fun([]int{1}, block(ret(1)))
	both := fun([]int{1, 2}, block(ret(1)))
	long := fun(nil, block(ret(0), slices.Repeat([]api.Ins{let(1, 1)}, api.MaxIns+1)...))
	var wide api.Func
	for b := range api.MaxAll + 1 {
		wide.Blocks = append(wide.Blocks, block(jump(b+1)))
	}
	wide.Blocks[api.MaxAll].Term = ret(0)
	for n, x := range []given{
		{f: api.Func{}}, {f: fun([]int{})}, {f: one}, {f: one, args: []int{1, 2}}, {f: both, args: []int{1}}, {f: both, args: []int{1, 2, 3}}, {f: both}, {f: fun(nil, block(ret(0))), args: []int{0}},
		{f: one, args: []int{1}, mem: make([]int, 65)}, {f: one, args: []int{1}, mem: make([]int, 1<<20)}, {f: one, args: make([]int, 1<<20)},
		// These are not right, each for another error.
		{f: long}, {f: wide}, {f: fun([]int{1, 1}, block(ret(1))), args: []int{1, 1}}, {f: fun([]int{0}, block(ret(0))), args: []int{1}}, {f: fun([]int{1, 2, 3, 4, 5, 6, 7, 8, 9}, block(ret(0))), args: make([]int, 9)},
		{f: fun(nil, block(ret(0), let(0, 1)))}, {f: fun(nil, block(ret(0), let(201, 1)))}, {f: fun(nil, block(ret(0), api.Ins{}))}, {f: fun(nil, block(api.Term{}))}, {f: fun(nil, block(ret(0), let(1, 1), api.Ins{Op: api.OpMove, Dst: 1, A: 1}))},
		{f: fun(nil, block(jump(0)))}, {f: fun(nil, block(jump(1)), block(jump(0)))}, {f: fun(nil, block(jump(1)), block(branch(1, 1, 0), let(1, 1)))}, {f: fun(nil, block(jump(-1)))}, {f: fun(nil, block(jump(1)))}, {f: fun(nil, block(ret(0)), block(ret(0)))},
		{f: fun(nil, block(ret(1)))}, {f: fun(nil, block(ret(0), copyOf(2, 1)))}, {f: fun([]int{1}, block(branch(1, 1, 2)), block(jump(2), let(2, 1)), block(ret(2))), args: []int{1}},
	} {
		if r, e := Begin(x.f, x.args, x.mem, x.answers); r != nil || e != api.ErrArg {
			t.Errorf("%d: %v, %d", n, r, e)
		}
		for _, fuel := range []int{-1, 0, 1, api.MaxSteps, api.MaxSteps + 1} {
			if r, e := Go(x.f, x.args, x.mem, x.answers, fuel); !reflect.DeepEqual(r, Result{}) || e != api.ErrArg {
				t.Errorf("%d, fuel %d: %v, %d", n, fuel, r, e)
			}
		}
	}
}

func TestWhatARunHasAtFirst(t *testing.T) {
	for _, many := range []int{0, 1, 63, 64} {
		mem := slices.Repeat([]int{many}, many)
		r := begins(t, fun([]int{200, 1, 7}, block(ret(1), let(2, 5))), []int{least, 0, most}, mem, []int{1, 2})
		became(t, r, Result{Mem: mem})
		stands(t, r, 0, 0)
		holds(t, r, 200, least, 1, 0, 7, most)
	}
	r := begins(t, fun(nil, block(stop())), nil, nil, nil)
	became(t, r, Result{})
	stands(t, r, 0, 0)
	holds(t, r)
	eight := begins(t, fun([]int{8, 7, 6, 5, 4, 3, 2, 1}, block(stop())), []int{1, 2, 3, 4, 5, 6, 7, 8}, nil, nil)
	holds(t, eight, 8, 1, 7, 2, 6, 3, 5, 4, 4, 5, 3, 6, 2, 7, 1, 8)
}

// P8.2

func TestEachInstructionIsOneStep(t *testing.T) {
	for _, x := range []struct {
		i     api.Ins
		d, n  int
		mem   []int
		calls []api.Call
	}{
		{let(3, -5), 3, -5, []int{8, 9}, nil}, {let(3, 1<<40), 3, 1 << 40, []int{8, 9}, nil}, {copyOf(3, 1), 3, 12, []int{8, 9}, nil}, {copyOf(1, 2), 1, -5, []int{8, 9}, nil}, {copyOf(1, 1), 1, 12, []int{8, 9}, nil},
		{two(api.OpAdd, 3, 1, 2), 3, 7, []int{8, 9}, nil}, {two(api.OpSub, 3, 1, 2), 3, 17, []int{8, 9}, nil}, {two(api.OpSub, 3, 2, 1), 3, -17, []int{8, 9}, nil}, {two(api.OpMul, 3, 1, 2), 3, -60, []int{8, 9}, nil},
		{two(api.OpDiv, 3, 1, 2), 3, -2, []int{8, 9}, nil}, {two(api.OpDiv, 3, 2, 1), 3, 0, []int{8, 9}, nil}, {two(api.OpAnd, 3, 1, 2), 3, 8, []int{8, 9}, nil}, {two(api.OpOr, 3, 1, 2), 3, -1, []int{8, 9}, nil},
		{two(api.OpXor, 3, 1, 2), 3, -9, []int{8, 9}, nil}, {two(api.OpLess, 3, 1, 2), 3, 0, []int{8, 9}, nil}, {two(api.OpLess, 3, 2, 1), 3, 1, []int{8, 9}, nil}, {two(api.OpSame, 3, 1, 2), 3, 0, []int{8, 9}, nil}, {two(api.OpSame, 3, 2, 2), 3, 1, []int{8, 9}, nil},
		{two(api.OpAdd, 1, 1, 1), 1, 24, []int{8, 9}, nil}, {two(api.OpSub, 2, 2, 2), 2, 0, []int{8, 9}, nil},
		{load(3, 1, -12), 3, 8, []int{8, 9}, nil}, {load(3, 2, 6), 3, 9, []int{8, 9}, nil}, {load(1, 1, -11), 1, 9, []int{8, 9}, nil},
		{store(1, -12, 2), 0, 0, []int{-5, 9}, nil}, {store(2, 6, 1), 0, 0, []int{8, 12}, nil}, {store(1, -11, 1), 0, 0, []int{8, 12}, nil},
		{call(3, 9, 1, 2), 3, 77, []int{8, 9}, []api.Call{called(9, 12, -5)}}, {call(0, 0), 0, 0, []int{8, 9}, []api.Call{called(0)}}, {call(2, 99, 2, 2, 1), 2, 77, []int{8, 9}, []api.Call{called(99, -5, -5, 12)}},
	} {
		r := begins(t, fun([]int{2, 1}, block(ret(0), x.i, let(9, 9))), []int{-5, 12}, []int{8, 9}, []int{77, 78})
		steps(t, r, 1)
		became(t, r, Result{Mem: x.mem, Calls: x.calls, Steps: 1})
		stands(t, r, 0, 1)
		switch x.d {
		case 0:
			holds(t, r, 1, 12, 2, -5)
		case 1:
			holds(t, r, 1, x.n, 2, -5)
		case 2:
			holds(t, r, 1, 12, 2, x.n)
		default:
			holds(t, r, 1, 12, 2, -5, x.d, x.n)
		}
	}
}

func TestPlacesOfTheMemory(t *testing.T) {
	try := func(many, a, imm int) {
		t.Helper()
		mem := make([]int, many)
		for n := range mem {
			mem[n] = 100 + n
		}
		place := a + imm
		is := 0 <= place && place < many
		got := begins(t, fun([]int{1}, block(ret(0), load(2, 1, imm))), []int{a}, mem, nil)
		put := begins(t, fun([]int{1, 3}, block(ret(0), store(1, imm, 3))), []int{a, -9}, mem, nil)
		steps(t, got, 1)
		steps(t, put, 1)
		if !is {
			became(t, got, Result{End: api.EndTrap, Mem: mem, Steps: 1})
			became(t, put, Result{End: api.EndTrap, Mem: mem, Steps: 1})
			stands(t, got, 0, 0)
			stands(t, put, 0, 0)
			holds(t, got, 1, a)
			ended(t, got)
			ended(t, put)
			return
		}
		became(t, got, Result{Mem: mem, Steps: 1})
		holds(t, got, 1, a, 2, 100+place)
		stands(t, got, 0, 1)
		after := slices.Clone(mem)
		after[place] = -9
		became(t, put, Result{Mem: after, Steps: 1})
		holds(t, put, 1, a, 3, -9)
		stands(t, put, 0, 1)
	}
	for _, many := range []int{0, 1, 2, 63, 64} {
		for _, place := range []int{-2, -1, 0, 1, many - 1, many, many + 1, 63, 64, 65, 200} {
			for _, imm := range []int{0, 1, -1, 5, 1 << 40, -1 << 40} {
				try(many, place-imm, imm)
			}
		}
		// Sums that wrap around.
		for _, imm := range []int{0, 1, 2, 64, 1 << 40} {
			try(many, most, imm)
			try(many, most-imm+1, imm)
			try(many, least, -imm)
			try(many, least+imm-1, -imm)
		}
	}
}

func TestCalls(t *testing.T) {
	f := fun([]int{1, 2}, block(ret(1), call(3, 7, 2, 1, 2), call(0, 8), call(3, 9, 3, 3), call(4, 0, 1, 2, 3, 1, 2, 3, 1, 2)))
	all := []api.Call{called(7, 20, 10, 20), called(8), called(9, 100, 100), called(0, 10, 20, 300, 10, 20, 300, 10, 20)}
	r := begins(t, f, []int{10, 20}, nil, []int{100, 200, 300})
	steps(t, r, 1)
	became(t, r, Result{Calls: all[:1], Steps: 1})
	holds(t, r, 1, 10, 2, 20, 3, 100)
	// A call without a Dst takes an answer all the same.
	steps(t, r, 1)
	became(t, r, Result{Calls: all[:2], Steps: 2})
	holds(t, r, 1, 10, 2, 20, 3, 100)
	steps(t, r, 1)
	became(t, r, Result{Calls: all[:3], Steps: 3})
	holds(t, r, 1, 10, 2, 20, 3, 300)
	stands(t, r, 0, 3)
	// There is no answer left: the call is noted, no more.
	steps(t, r, 1)
	became(t, r, Result{End: api.EndTrap, Calls: all, Steps: 4})
	holds(t, r, 1, 10, 2, 20, 3, 300)
	stands(t, r, 0, 3)
	ended(t, r)
	enough := steps(t, begins(t, f, []int{10, 20}, nil, []int{100, 200, 300, 400, 500}), 5)
	became(t, enough, Result{End: api.EndReturn, Value: 10, Calls: all, Steps: 5})
	holds(t, enough, 1, 10, 2, 20, 3, 300, 4, 400)
	none := steps(t, begins(t, fun(nil, block(ret(0), call(0, 5))), nil, []int{6}, nil), 1)
	became(t, none, Result{End: api.EndTrap, Mem: []int{6}, Calls: []api.Call{called(5)}, Steps: 1})
	stands(t, none, 0, 0)
	holds(t, none)
	ended(t, none)
}

func TestATrapAmidABlock(t *testing.T) {
	for _, i := range []api.Ins{two(api.OpDiv, 1, 2, 3), load(1, 2, 0), load(1, 3, -1), store(2, 0, 1), call(1, 4, 2)} {
		f := fun([]int{1, 2}, block(jump(1)), block(ret(1), let(3, 0), store(3, 0, 1), i, let(1, 9), store(3, 1, 1)))
		r := steps(t, begins(t, f, []int{5, 7}, []int{1, 2}, nil), 4)
		want := Result{End: api.EndTrap, Mem: []int{5, 2}, Steps: 4}
		if i.Op == api.OpCall {
			want.Calls = []api.Call{called(4, 7)}
		}
		became(t, r, want)
		stands(t, r, 1, 2)
		holds(t, r, 1, 5, 2, 7, 3, 0)
		ended(t, r)
	}
}

func TestEnds(t *testing.T) {
	for _, x := range []struct {
		end   api.Term
		a, to int
		kind  api.EndKind
		value int
	}{
		{end: jump(1), to: 1}, {end: jump(2), to: 2}, {end: branch(1, 1, 2), a: 1, to: 1}, {end: branch(1, 1, 2), a: -1, to: 1}, {end: branch(1, 1, 2), a: most, to: 1}, {end: branch(1, 1, 2), a: least, to: 1}, {end: branch(1, 1, 2), a: 1 << 32, to: 1},
		{end: branch(1, 1, 2), a: 0, to: 2}, {end: branch(1, 2, 1), a: 0, to: 1}, {end: branch(1, 2, 1), a: 2, to: 2}, {end: branch(1, 2, 2), a: 0, to: 2}, {end: branch(1, 2, 2), a: 1, to: 2}, {end: branch(1, 1, 1), a: 0, to: 1}, {end: branch(1, 1, 1), a: -1, to: 1},
		{end: ret(1), a: 5, kind: api.EndReturn, value: 5}, {end: ret(1), a: least, kind: api.EndReturn, value: least}, {end: ret(1), kind: api.EndReturn}, {end: ret(0), a: 5, kind: api.EndReturn}, {end: stop(), a: 5, kind: api.EndTrap},
	} {
		// The blocks 1 and 2 are reached otherwise, if this end goes to neither.
		f := fun([]int{1, 2}, block(branch(2, 1, 3)), block(branch(2, 2, 2), let(3, 3)), block(ret(2), let(4, 4)), block(x.end, let(5, 6)))
		r := steps(t, begins(t, f, []int{x.a, 0}, []int{7}, nil), 2)
		stands(t, r, 3, 1)
		steps(t, r, 1)
		became(t, r, Result{End: x.kind, Value: x.value, Mem: []int{7}, Steps: 3})
		holds(t, r, 1, x.a, 2, 0, 5, 6)
		if x.kind == api.EndNone {
			stands(t, r, x.to, 0)
			continue
		}
		stands(t, r, 3, 1)
		ended(t, r)
	}
}

func TestWhereItStands(t *testing.T) {
	r := begins(t, countdown(), []int{2}, nil, nil)
	for n, at := range []spot{{0, 0}, {0, 1}, {1, 0}, {2, 0}, {2, 1}, {1, 0}, {2, 0}, {2, 1}, {1, 0}, {3, 0}} {
		stands(t, r, at.block, at.ins)
		became(t, r, Result{Steps: n})
		if !r.Step() {
			t.Error("it has ended")
		}
	}
	stands(t, r, 3, 0)
	became(t, r, Result{End: api.EndReturn, Steps: 10})
	ended(t, r)
	empty := begins(t, fun(nil, block(jump(1)), block(jump(1))), nil, nil, nil)
	stands(t, empty, 0, 0)
	for range 3 {
		steps(t, empty, 1)
		stands(t, empty, 1, 0)
	}
}

func TestValuesStayFromBlockToBlock(t *testing.T) {
	f := fun(nil, block(jump(1), let(1, 3), let(200, 4)), block(branch(1, 2, 3), copyOf(2, 1)), block(jump(3), let(1, 0)), block(ret(2), two(api.OpAdd, 2, 2, 200)))
	r := steps(t, begins(t, f, nil, nil, nil), 8)
	holds(t, r, 1, 0, 2, 7, 200, 4)
	became(t, r, Result{Steps: 8})
	steps(t, r, 1)
	became(t, r, Result{End: api.EndReturn, Value: 7, Steps: 9})
	holds(t, r, 1, 0, 2, 7, 200, 4)
	ended(t, r)
}

func TestAllVariables(t *testing.T) {
	f, pairs := fun(nil, block(jump(1)), block(jump(2)), block(jump(3)), block(ret(200))), []int{}
	for v := 1; v <= api.MaxVars; v++ {
		b := &f.Blocks[(v-1)/50]
		b.Ins = append(b.Ins, let(v, 1000-v))
		pairs = append(pairs, v, 1000-v)
	}
	r := steps(t, begins(t, f, nil, nil, nil), 203)
	holds(t, r, pairs...)
	steps(t, r, 1)
	became(t, r, Result{End: api.EndReturn, Value: 800, Steps: 204})
}

// P8.3

func TestGo(t *testing.T) {
	for n, x := range []struct {
		given
		fuel int
		want Result
	}{
		// The chapter's examples.
		{given{f: fun([]int{1, 2}, block(ret(1), two(api.OpDiv, 1, 1, 2))), args: []int{7, 0}}, 9, Result{End: api.EndTrap, Steps: 1}},
		{given{f: fun(nil, block(ret(0), call(1, 3)))}, 9, Result{End: api.EndTrap, Calls: []api.Call{called(3)}, Steps: 1}},
		{given{f: fun([]int{1}, block(ret(1))), args: []int{8}, mem: []int{4}}, 9, Result{End: api.EndReturn, Value: 8, Mem: []int{4}, Steps: 1}},
		{given{f: fun(nil, block(stop())), answers: []int{1}}, 9, Result{End: api.EndTrap, Steps: 1}},
		{given{f: fun(nil, block(ret(0)))}, 9, Result{End: api.EndReturn, Steps: 1}},
	} {
		if r, e := Go(x.f, x.args, x.mem, x.answers, x.fuel); e != api.OK || !same(r, x.want) {
			t.Errorf("%d: %v, %d, not %v", n, r, e, x.want)
		}
	}
}

func TestFuel(t *testing.T) {
	for _, x := range []struct {
		f    api.Func
		arg  []int
		fuel int
		end  api.EndKind
		took int
	}{
		{ring(), nil, least, api.EndNone, 0}, {ring(), nil, -1, api.EndNone, 0}, {ring(), nil, 0, api.EndNone, 0}, {ring(), nil, 1, api.EndNone, 1}, {ring(), nil, 2, api.EndNone, 2}, {ring(), nil, 19999, api.EndNone, 19999}, {ring(), nil, 20000, api.EndNone, 20000},
		{countdown(), []int{0}, 0, api.EndNone, 0}, {countdown(), []int{0}, 3, api.EndNone, 3}, {countdown(), []int{0}, 4, api.EndReturn, 4}, {countdown(), []int{0}, 5, api.EndReturn, 4}, {countdown(), []int{0}, 20000, api.EndReturn, 4},
		{countdown(), []int{5}, 18, api.EndNone, 18}, {countdown(), []int{5}, 19, api.EndReturn, 19}, {countdown(), []int{5}, 20, api.EndReturn, 19},
		{countdown(), []int{6665}, 19998, api.EndNone, 19998}, {countdown(), []int{6665}, 19999, api.EndReturn, 19999}, {countdown(), []int{6665}, 20000, api.EndReturn, 19999}, {countdown(), []int{6666}, 20000, api.EndNone, 20000},
	} {
		if r, e := Go(x.f, x.arg, nil, nil, x.fuel); e != api.OK || r.End != x.end || r.Steps != x.took {
			t.Errorf("%v of %d: %v, %d", x.arg, x.fuel, r, e)
		}
	}
	for _, fuel := range []int{20001, 20002, 1 << 40, most} {
		if r, e := Go(countdown(), []int{0}, []int{1}, nil, fuel); !reflect.DeepEqual(r, Result{}) || e != api.ErrLong {
			t.Errorf("%d: %v, %d", fuel, r, e)
		}
	}
}

// A run that is stepped has no such bound.
func TestMoreStepsThanFuelMayBe(t *testing.T) {
	r := steps(t, begins(t, ring(), nil, nil, nil), 3*api.MaxSteps)
	became(t, r, Result{Steps: 3 * api.MaxSteps})
}

// P8.4

func TestNoRun(t *testing.T) {
	was := steps(t, begins(t, fun([]int{1}, block(ret(1), let(2, 1), let(3, 1))), []int{5}, []int{6}, nil), 1)
	taken := *was
	for _, r := range []*Run{nil, {}, new(Run), &taken} {
		for range 2 {
			b, i := r.At()
			n, ok := r.Var(1)
			if r.Step() || b != 0 || i != 0 || n != 0 || ok || !reflect.DeepEqual(r.Result(), Result{}) {
				t.Errorf("%v: %d, %d, %d, %v, %v", r, b, i, n, ok, r.Result())
			}
		}
	}
	became(t, was, Result{Mem: []int{6}, Steps: 1})
	stands(t, was, 0, 1)
	if r, e := Begin(api.Func{}, nil, nil, nil); r.Step() || e != api.ErrArg {
		t.Error("a step of no run")
	}
}

// P8.5

// Step by step against a run that is told as the chapter does.
func TestAgreesWithThePlainRun(t *testing.T) {
	d := dice(1)
	how := map[api.EndKind]int{}
	for range 20000 {
		g := d.beginning()
		r, p := begins(t, g.f, g.args, g.mem, g.answers), plainBegin(g)
		for range 40 {
			agrees(t, r, p)
			if r.Step() != p.step() {
				t.Fatalf("%v: %v", g, p.Result)
			}
		}
		how[p.End]++
	}
	for _, k := range []api.EndKind{api.EndNone, api.EndReturn, api.EndTrap} {
		if how[k] < 500 {
			t.Errorf("%d end with %d", how[k], k)
		}
	}
}

func agrees(t *testing.T, r *Run, p *plain) {
	t.Helper()
	if p.unknown {
		t.Fatalf("%v reads what has no value", p.given)
	}
	if !same(r.Result(), p.Result) {
		t.Fatalf("%v: %v, not %v", p.given, r.Result(), p.Result)
	}
	b, i := r.At()
	if at := row(p.f)[p.at]; at.block != b || at.ins != i {
		t.Fatalf("%v: at %d, %d, not %v", p.given, b, i, at)
	}
	reads := ir.Needs(p.f.Blocks[b].Term)
	if i < len(p.f.Blocks[b].Ins) {
		reads = ir.Reads(p.f.Blocks[b].Ins[i])
	}
	for _, v := range reads {
		if _, ok := r.Var(v); !ok {
			t.Fatalf("%v: v%d is read at %d, %d, and has no value", p.given, v, b, i)
		}
	}
	for v, want := range p.has {
		n, ok := r.Var(v)
		if ok != (want != nil) || want != nil && n != *want || want == nil && n != 0 {
			t.Fatalf("%v: v%d is %d, %v", p.given, v, n, ok)
		}
	}
}

// In n steps a run is where it is in the first n of more, each time.
func TestFewerStepsAreTheFirstOfMore(t *testing.T) {
	d := dice(2)
	for range 1000 {
		g := d.beginning()
		r := begins(t, g.f, g.args, g.mem, g.answers)
		for n := range 25 {
			for range 2 {
				if x, e := Go(g.f, g.args, g.mem, g.answers, n); e != api.OK || !reflect.DeepEqual(x, r.Result()) {
					t.Fatalf("%v: in %d steps %v, not %v", g, n, x, r.Result())
				}
			}
			r.Step()
		}
	}
}

// R3

// deep is what shares nothing with g.
func deep(g given) given {
	f := fun(slices.Clone(g.f.Params), slices.Clone(g.f.Blocks)...)
	for b := range f.Blocks {
		f.Blocks[b].Ins = slices.Clone(f.Blocks[b].Ins)
		for i := range f.Blocks[b].Ins {
			f.Blocks[b].Ins[i].Args = slices.Clone(f.Blocks[b].Ins[i].Args)
		}
	}
	return given{f, slices.Clone(g.args), slices.Clone(g.mem), slices.Clone(g.answers)}
}

// spoil changes all that may be changed.
func spoil(l []int) {
	for n := range l {
		l[n] = -77
	}
}

func (g given) spoil() {
	spoil(g.args)
	spoil(g.mem)
	spoil(g.answers)
	spoil(g.f.Params)
	for b := range g.f.Blocks {
		for i := range g.f.Blocks[b].Ins {
			spoil(g.f.Blocks[b].Ins[i].Args)
			g.f.Blocks[b].Ins[i] = api.Ins{}
		}
		g.f.Blocks[b] = api.Block{}
	}
}

func TestWhatIsHandedInStaysAndIsNotKept(t *testing.T) {
	d := dice(3)
	for range 2000 {
		g := d.beginning()
		was, lent := deep(g), deep(g)
		r, spoilt := begins(t, g.f, g.args, g.mem, g.answers), begins(t, lent.f, lent.args, lent.mem, lent.answers)
		lent.spoil()
		for range 25 {
			if r.Step() != spoilt.Step() || !reflect.DeepEqual(r.Result(), spoilt.Result()) {
				t.Fatalf("%v: %v, not %v", was, spoilt.Result(), r.Result())
			}
		}
		if _, e := Go(g.f, g.args, g.mem, g.answers, 25); e != api.OK || !reflect.DeepEqual(g, was) {
			t.Fatalf("%v was %v", g, was)
		}
	}
}

// What is told stays when the run goes on, and the run goes on the same when what was told is changed.
func TestWhatIsToldLiesApart(t *testing.T) {
	d := dice(4)
	for range 2000 {
		g := d.beginning()
		r, p := begins(t, g.f, g.args, g.mem, g.answers), plainBegin(g)
		for range 25 {
			kept, other := r.Result(), r.Result()
			want := r.Result()
			spoil(other.Mem)
			for n := range other.Calls {
				spoil(other.Calls[n].Args)
				other.Calls[n] = called(-77)
			}
			r.Step()
			p.step()
			if !same(kept, want) || !same(r.Result(), p.Result) {
				t.Fatalf("%v: %v, %v, then %v", g, kept, want, r.Result())
			}
		}
	}
}

// Room behind what is told is not the run's either, nor is it behind what is handed in.
func TestRoomBehindIsNotShared(t *testing.T) {
	f := fun(nil, block(ret(0), call(0, 1), call(0, 2), call(0, 3), call(0, 4)))
	r := steps(t, begins(t, f, nil, []int{1}, []int{1, 2, 3, 4}), 3)
	told := r.Result()
	_, _ = append(told.Calls, called(9)), append(told.Mem, 9)
	steps(t, r, 1)
	became(t, r, Result{Mem: []int{1}, Calls: []api.Call{called(1), called(2), called(3), called(4)}, Steps: 4})
	mem := make([]int, 1, 64)
	at := begins(t, fun([]int{1}, block(ret(0), store(1, 0, 1))), []int{1}, mem, nil)
	steps(t, at, 1)
	became(t, at, Result{End: api.EndTrap, Mem: []int{0}, Steps: 1})
	if mem[:2][1] != 0 {
		t.Error("it stored behind the memory")
	}
}

// Runs of one function go on apart from each other.
func TestRunsAreApart(t *testing.T) {
	g := given{fun([]int{1}, block(jump(1), let(2, 0)), block(jump(1), call(1, 1, 1), store(2, 0, 1))), []int{5}, []int{0}, []int{6, 7}}
	a, b := begins(t, g.f, g.args, g.mem, g.answers), begins(t, g.f, g.args, g.mem, g.answers)
	steps(t, a, 7)
	became(t, a, Result{Mem: []int{7}, Calls: []api.Call{called(1, 5), called(1, 6)}, Steps: 7})
	became(t, b, Result{Mem: []int{0}})
	holds(t, b, 1, 5)
	steps(t, b, 4)
	became(t, b, Result{Mem: []int{6}, Calls: []api.Call{called(1, 5)}, Steps: 4})
	holds(t, a, 1, 7, 2, 0)
}

// The longest right function there is.
func TestTheLongestFunction(t *testing.T) {
	var f api.Func
	all := slices.Repeat([]api.Ins{call(1, 99, 1, 1, 1, 1, 1, 1, 1, 1)}, api.MaxIns)
	for b := range api.MaxAll {
		f.Blocks = append(f.Blocks, block(jump(b+1), all...))
	}
	f.Params, f.Blocks[api.MaxAll-1].Term = []int{1}, ret(1)
	answers := make([]int, api.MaxAll*api.MaxIns)
	answers[len(answers)-1] = 8
	r, e := Go(f, []int{1}, make([]int, 64), answers, api.MaxSteps)
	if e != api.OK || r.End != api.EndReturn || r.Value != 8 || r.Steps != 13000 || len(r.Calls) != 12800 {
		t.Error(r.End, r.Value, r.Steps, len(r.Calls), e)
	}
}
