package mread

import (
	"math"
	"reflect"
	"slices"
	"strconv"
	"strings"
	"testing"

	"intarsia/api"
	"intarsia/mir"
)

func jump(to int) api.Term        { return api.Term{Kind: api.TermJump, To: [2]int{to}} }
func branch(a, x, y int) api.Term { return api.Term{Kind: api.TermBranch, A: a, To: [2]int{x, y}} }
func ret(a int) api.Term          { return api.Term{Kind: api.TermReturn, A: a} }
func trap() api.Term              { return api.Term{Kind: api.TermTrap} }

func let(d, n int) api.Ins              { return api.Ins{Op: api.OpConst, Dst: d, Imm: n} }
func two(o api.Op, d, a, b int) api.Ins { return api.Ins{Op: o, Dst: d, A: a, B: b} }
func load(d, a, n int) api.Ins          { return api.Ins{Op: api.OpLoad, Dst: d, A: a, Imm: n} }
func store(a, n, b int) api.Ins         { return api.Ins{Op: api.OpStore, A: a, B: b, Imm: n} }
func call(callee, many int) api.Ins     { return api.Ins{Op: api.OpCall, Callee: callee, Many: many} }
func move(d, a int) api.Ins             { return api.Ins{Op: api.OpMove, Dst: d, A: a} }
func put(s, a int) api.Ins              { return api.Ins{Op: api.OpPut, A: a, Imm: s} }
func get(d, s int) api.Ins              { return api.Ins{Op: api.OpGet, Dst: d, Imm: s} }

func block(t api.Term, l ...api.Ins) api.Block { return api.Block{Ins: l, Term: t} }

func target(frame int, l ...api.Block) api.Target { return api.Target{Frame: frame, Blocks: l} }

// ofIns, ofEnd are targets of one line.
func ofIns(i api.Ins) api.Target  { return target(0, block(trap(), i)) }
func ofEnd(t api.Term) api.Target { return target(0, block(t)) }

// traps is a target of that many blocks.
func traps(many int) (t api.Target) {
	for range many {
		t.Blocks = append(t.Blocks, block(trap()))
	}
	return t
}

// trapsText is its text.
func trapsText(many int) string {
	s := "target 0\n"
	for n := range many {
		s += "block " + strconv.Itoa(n) + "\ntrap\n"
	}
	return s
}

// in is the text of a block of that line.
func in(line string) string { return "target 0\nblock 0\n" + line }

// like makes a list without elements and a nil one alike, and shares nothing with t.
func like(t api.Target) api.Target {
	t.Blocks = append([]api.Block{}, t.Blocks...)
	for b := range t.Blocks {
		t.Blocks[b].Ins = append([]api.Ins{}, t.Blocks[b].Ins...)
		for i := range t.Blocks[b].Ins {
			t.Blocks[b].Ins[i].Args = append([]int{}, t.Blocks[b].Ins[i].Args...)
		}
	}
	return t
}

func same(t, u api.Target) bool { return reflect.DeepEqual(like(t), like(u)) }

// tells fails unless x is written as s, and s is read as x.
func tells(t *testing.T, x api.Target, s string) {
	t.Helper()
	if got, e := Print(x); e != api.OK || got != s {
		t.Errorf("%.200v is written %.200q, %d, not %.200q", x, got, e, s)
	}
	parses(t, s, x)
}

// parses fails unless s is read as x.
func parses(t *testing.T, s string, x api.Target) {
	t.Helper()
	if y, line, col, e := Parse(s); line != 0 || col != 0 || e != api.OK || !same(x, y) {
		t.Errorf("%.200q is read %.200v, %d, %d, %d, not %.200v", s, y, line, col, e, x)
	}
}

// breaks fails unless s has that error at that place.
func breaks(t *testing.T, s string, line, col int, e api.Errno) {
	t.Helper()
	if x, l, c, got := Parse(s); l != line || c != col || got != e || !reflect.DeepEqual(x, api.Target{}) {
		t.Errorf("%.200q is read %.200v, %d, %d, %d, not %d, %d, %d", s, x, l, c, got, line, col, e)
	}
}

// refused fails unless x is not written, for that error.
func refused(t *testing.T, x api.Target, e api.Errno) {
	t.Helper()
	if s, got := Print(x); s != "" || got != e {
		t.Errorf("%.200v is written %.200q, %d, not %d", x, s, got, e)
	}
}

// insLines are instructions, and how they are written: one of each Op, and those at the edges.
var insLines = []struct {
	i api.Ins
	s string
}{
	{let(1, 0), "r1 ← const 0"}, {let(63, -5), "r63 ← const -5"}, {let(10, 1<<40), "r10 ← const 1099511627776"}, {let(0, -1<<40), "r0 ← const -1099511627776"},
	{two(api.OpAdd, 1, 2, 3), "r1 ← add r2 r3"}, {two(api.OpSub, 1, 2, 3), "r1 ← sub r2 r3"}, {two(api.OpMul, 1, 2, 3), "r1 ← mul r2 r3"},
	{two(api.OpDiv, 1, 2, 3), "r1 ← div r2 r3"}, {two(api.OpAnd, 1, 2, 3), "r1 ← and r2 r3"}, {two(api.OpOr, 1, 2, 3), "r1 ← or r2 r3"},
	{two(api.OpXor, 1, 2, 3), "r1 ← xor r2 r3"}, {two(api.OpLess, 0, 0, 0), "r0 ← less r0 r0"}, {two(api.OpSame, 63, 62, 20), "r63 ← same r62 r20"},
	{load(1, 2, 3), "r1 ← load r2 3"}, {load(63, 0, -1<<40), "r63 ← load r0 -1099511627776"}, {load(0, 63, 1<<40), "r0 ← load r63 1099511627776"},
	{store(1, 2, 3), "store r1 2 r3"}, {store(0, 1<<40, 63), "store r0 1099511627776 r63"}, {store(63, -1<<40, 0), "store r63 -1099511627776 r0"}, {store(1, 0, 1), "store r1 0 r1"},
	{call(2, 3), "call 2 3"}, {call(0, 0), "call 0 0"}, {call(99, 8), "call 99 8"}, {call(10, 1), "call 10 1"},
	{move(1, 2), "r1 ← r2"}, {move(0, 63), "r0 ← r63"}, {move(63, 0), "r63 ← r0"}, {move(5, 5), "r5 ← r5"},
	{put(1, 2), "s1 ← r2"}, {put(0, 0), "s0 ← r0"}, {put(399, 63), "s399 ← r63"}, {put(63, 1), "s63 ← r1"},
	{get(1, 2), "r1 ← s2"}, {get(0, 0), "r0 ← s0"}, {get(63, 399), "r63 ← s399"}, {get(1, 64), "r1 ← s64"},
}

// endLines are ends, and how they are written.
var endLines = []struct {
	t api.Term
	s string
}{
	{jump(0), "→ 0"}, {jump(1), "→ 1"}, {jump(199), "→ 199"}, {branch(1, 2, 3), "r1 → 2 3"}, {branch(0, 0, 0), "r0 → 0 0"}, {branch(63, 0, 199), "r63 → 0 199"}, {branch(20, 199, 0), "r20 → 199 0"}, {branch(3, 7, 7), "r3 → 7 7"},
	{ret(-1), "return"}, {ret(0), "return r0"}, {ret(1), "return r1"}, {ret(63), "return r63"}, {trap(), "trap"},
}

// P7.1, P7.2

func TestEachInstructionAndEnd(t *testing.T) {
	for _, x := range insLines {
		tells(t, ofIns(x.i), in(x.s+"\ntrap\n"))
	}
	for _, x := range endLines {
		tells(t, ofEnd(x.t), in(x.s+"\n"))
	}
}

func TestWholeTargets(t *testing.T) {
	var all []api.Ins
	s := "target 400\nblock 0\n"
	for _, x := range insLines {
		all, s = append(all, x.i), s+x.s+"\n"
	}
	tells(t, target(400, block(branch(3, 1, 2), all...), block(jump(2)), block(ret(1), move(1, 3))), s+"r3 → 1 2\nblock 1\n→ 2\nblock 2\nr1 ← r3\nreturn r1\n")
	tells(t, target(1, block(ret(0), put(0, 1), get(0, 0))), "target 1\nblock 0\ns0 ← r1\nr0 ← s0\nreturn r0\n")
	tells(t, target(0, block(trap(), []api.Ins{}...)), in("trap\n"))
	tells(t, traps(2), trapsText(2))
	tells(t, traps(199), trapsText(199))
	tells(t, traps(200), trapsText(200))
	most := slices.Repeat([]api.Ins{move(1, 2)}, 4000)
	tells(t, target(0, block(trap(), most...), block(ret(-1), most[:3999]...)), in(strings.Repeat("r1 ← r2\n", 4000)+"trap\nblock 1\n"+strings.Repeat("r1 ← r2\n", 3999)+"return\n"))
}

func TestEachRegisterAndSlot(t *testing.T) {
	for n := range 64 {
		r := "r" + strconv.Itoa(n)
		tells(t, target(0, block(ret(n), let(n, n), two(api.OpSub, n, n, n), load(n, n, n), store(n, n, n), move(n, n), put(n, n), get(n, n)), block(branch(n, n, n))),
			in(r+" ← const "+r[1:]+"\n"+r+" ← sub "+r+" "+r+"\n"+r+" ← load "+r+" "+r[1:]+"\nstore "+r+" "+r[1:]+" "+r+"\n"+r+" ← "+r+"\ns"+r[1:]+" ← "+r+"\n"+r+" ← s"+r[1:]+"\nreturn "+r+"\nblock 1\n"+r+" → "+r[1:]+" "+r[1:]+"\n"))
	}
	for n := range 400 {
		s := "s" + strconv.Itoa(n)
		tells(t, target(400-n, block(trap(), put(n, 1), get(2, n))), "target "+strconv.Itoa(400-n)+"\nblock 0\n"+s+" ← r1\nr2 ← "+s+"\ntrap\n")
	}
}

// Each number at and around its bounds, written and read.
func TestNumbersAndTheirBounds(t *testing.T) {
	try := func(n, least, most int, x api.Target, before, behind string) {
		t.Helper()
		s := before + strconv.Itoa(n) + behind
		if within(n, least, most) {
			tells(t, x, s)
			return
		}
		refused(t, x, api.ErrArg)
		line := 1 + strings.Count(before, "\n")
		breaks(t, s, line, 1+len([]rune(before[strings.LastIndex(before, "\n")+1:])), api.ErrLong)
	}
	for _, n := range []int{-1 << 40, -401, -2, -1, 0, 1, 7, 8, 9, 10, 98, 99, 100, 101, 198, 199, 200, 201, 399, 400, 401, 1 << 40} {
		try(n, 0, 400, target(n, block(trap())), "target ", "\nblock 0\ntrap\n")
		try(n, 0, 199, ofEnd(jump(n)), in("→ "), "\n")
		try(n, 0, 199, ofEnd(branch(1, n, 2)), in("r1 → "), " 2\n")
		try(n, 0, 199, ofEnd(branch(1, 2, n)), in("r1 → 2 "), "\n")
		try(n, 0, 99, ofIns(call(n, 1)), in("call "), " 1\ntrap\n")
		try(n, 0, 8, ofIns(call(1, n)), in("call 1 "), "\ntrap\n")
		try(n, -1<<40, 1<<40, ofIns(let(1, n)), in("r1 ← const "), "\ntrap\n")
		try(n, -1<<40, 1<<40, ofIns(load(1, 2, n)), in("r1 ← load r2 "), "\ntrap\n")
		try(n, -1<<40, 1<<40, ofIns(store(1, n, 2)), in("store r1 "), " r2\ntrap\n")
	}
	// These are no words of chapter 1: the cursor's own error stands ahead of all else.
	for _, n := range []int{-1<<40 - 1, 1<<40 + 1} {
		for _, i := range []api.Ins{let(1, n), load(1, 2, n), store(1, n, 2)} {
			refused(t, ofIns(i), api.ErrArg)
		}
		breaks(t, "x\nr1 ← const "+strconv.Itoa(n), 2, 12, api.ErrLong)
		breaks(t, "x\nr1 ← load r2 "+strconv.Itoa(n), 2, 14, api.ErrLong)
		breaks(t, "x\nstore r1 "+strconv.Itoa(n)+" r2", 2, 10, api.ErrLong)
	}
	for n := range 200 {
		tells(t, ofEnd(jump(n)), in("→ "+strconv.Itoa(n)+"\n"))
		tells(t, ofIns(call(n/2, n%9)), in("call "+strconv.Itoa(n/2)+" "+strconv.Itoa(n%9)+"\ntrap\n"))
	}
}

// P7.1

func TestPrintOfWhatCanNotBeWritten(t *testing.T) {
	most := slices.Repeat([]api.Ins{let(1, 1)}, 4001)
	for _, x := range []api.Target{
		{}, {Blocks: []api.Block{}}, {Frame: 400}, traps(201), traps(202), traps(1 << 16), {Blocks: make([]api.Block, 1)}, {Blocks: make([]api.Block, 200)},
		target(math.MinInt, block(trap())), target(math.MaxInt, block(trap())), target(0, block(trap(), most...)), target(0, block(trap()), block(trap(), most...)),
		target(0, block(trap(), let(1, 1), api.Ins{})), target(0, block(trap()), block(trap(), let(1, 1), api.Ins{})), target(0, block(trap()), block(trap()), block(api.Term{})), target(0, block(trap()), block(jump(200))), target(0, block(ret(64)), block(trap())), target(-1, block(trap(), move(64, 0))),
	} {
		refused(t, x, api.ErrArg)
	}
	for _, o := range []api.Op{0, -1, api.OpCopy, 18, 19, 64, math.MinInt, math.MaxInt} {
		for _, i := range []api.Ins{{}, {Dst: 1, A: 1}, {Dst: 1, A: 1, B: 1}, {Dst: 1, Imm: 1}, {Callee: 1, Many: 1}} {
			i.Op = o
			refused(t, ofIns(i), api.ErrArg)
		}
	}
	for _, k := range []api.TermKind{0, -1, 5, 6, math.MinInt, math.MaxInt} {
		for _, e := range []api.Term{{}, {A: 1}, {A: -1}, {A: 1, To: [2]int{1, 1}}} {
			e.Kind = k
			refused(t, ofEnd(e), api.ErrArg)
		}
	}
}

// Places that no text tells of.
func TestPrintOfPlacesThatAreNone(t *testing.T) {
	for _, n := range []int{-2, 64, 65, 400, math.MinInt, math.MaxInt} {
		for _, i := range []api.Ins{
			let(n, 1), two(api.OpAdd, n, 1, 1), two(api.OpAnd, 1, n, 1), two(api.OpSame, 1, 1, n), load(n, 1, 1), load(1, n, 1), store(n, 1, 1), store(1, 1, n), move(n, 1), move(1, n), put(1, n), get(n, 1),
		} {
			refused(t, ofIns(i), api.ErrArg)
		}
		refused(t, ofEnd(branch(n, 1, 1)), api.ErrArg)
		refused(t, ofEnd(ret(n)), api.ErrArg)
	}
	for _, i := range []api.Ins{let(-1, 1), two(api.OpAdd, 1, -1, 1), two(api.OpMul, 1, 1, -1), load(1, -1, 1), store(-1, 1, 1), store(1, 1, -1), move(-1, 1), move(1, -1), put(1, -1), get(-1, 1)} {
		refused(t, ofIns(i), api.ErrArg)
	}
	refused(t, ofEnd(branch(-1, 1, 1)), api.ErrArg)
	for _, n := range []int{-1, 400, 401, 1 << 40, math.MinInt, math.MaxInt} {
		for _, frame := range []int{0, 400} {
			refused(t, target(frame, block(trap(), put(n, 1))), api.ErrArg)
			refused(t, target(frame, block(trap(), get(1, n))), api.ErrArg)
		}
	}
}

// Every instruction and end with a part that it may not have, or that it has to have.
func TestPrintOfMoreAndLessThanItHas(t *testing.T) {
	for _, x := range insLines {
		for _, n := range []int{1, -1, 9, 63, 64, math.MinInt} {
			for _, part := range []func(i *api.Ins) *int{
				func(i *api.Ins) *int { return &i.Dst }, func(i *api.Ins) *int { return &i.A }, func(i *api.Ins) *int { return &i.B }, func(i *api.Ins) *int { return &i.Imm }, func(i *api.Ins) *int { return &i.Callee }, func(i *api.Ins) *int { return &i.Many },
			} {
				i := x.i
				*part(&i) = n
				agreesInWriting(t, ofIns(i))
			}
		}
		i := x.i
		i.Args = []int{}
		tells(t, ofIns(i), in(x.s+"\ntrap\n"))
		for _, l := range [][]int{{0}, {1}, {1, 2}} {
			i.Args = l
			refused(t, ofIns(i), api.ErrArg)
		}
	}
	for _, x := range endLines {
		for _, n := range []int{1, -1, 0, 199, 200, math.MinInt} {
			for _, e := range []api.Term{{Kind: x.t.Kind, A: n, To: x.t.To}, {Kind: x.t.Kind, A: x.t.A, To: [2]int{n, x.t.To[1]}}, {Kind: x.t.Kind, A: x.t.A, To: [2]int{x.t.To[0], n}}} {
				agreesInWriting(t, ofEnd(e))
			}
		}
	}
	for _, x := range []api.Target{
		ofIns(api.Ins{Op: api.OpCall, Dst: 1, Callee: 1, Many: 1}), ofIns(api.Ins{Op: api.OpMove, Dst: 1, A: 1, Imm: 1}), ofIns(api.Ins{Op: api.OpPut, Dst: 1, A: 1, Imm: 1}), ofIns(api.Ins{Op: api.OpGet, Dst: 1, A: 1, Imm: 1}), ofIns(api.Ins{Op: api.OpConst, Dst: 1, Imm: 1, A: 1}), ofIns(api.Ins{Op: api.OpAdd, Dst: 1, A: 1, B: 1, Imm: 1}), ofIns(api.Ins{Op: api.OpStore, Dst: 1, A: 1, B: 1}), ofIns(api.Ins{Op: api.OpLoad, Dst: 1, A: 1, B: 1}), ofIns(api.Ins{Op: api.OpMove, Dst: 1, A: 1, Many: 1}), ofIns(api.Ins{Op: api.OpPut, A: 1, Callee: 1}),
		ofEnd(api.Term{Kind: api.TermJump, A: 1}), ofEnd(api.Term{Kind: api.TermJump, A: -1}), ofEnd(api.Term{Kind: api.TermJump, To: [2]int{0, 1}}), ofEnd(api.Term{Kind: api.TermReturn, To: [2]int{1, 0}}), ofEnd(api.Term{Kind: api.TermReturn, A: -1, To: [2]int{0, 1}}), ofEnd(api.Term{Kind: api.TermTrap, A: 1}), ofEnd(api.Term{Kind: api.TermTrap, A: -1}), ofEnd(api.Term{Kind: api.TermTrap, To: [2]int{1, 0}}), ofEnd(api.Term{Kind: api.TermTrap, To: [2]int{0, 1}}),
	} {
		refused(t, x, api.ErrArg)
	}
}

// A target need not be right for any machine to be written.
func TestPrintOfWhatIsNotRight(t *testing.T) {
	tells(t, target(0, block(ret(7), put(399, 1)), block(ret(8), get(63, 0), call(99, 8)), block(jump(199))), "target 0\nblock 0\ns399 ← r1\nreturn r7\nblock 1\nr63 ← s0\ncall 99 8\nreturn r8\nblock 2\n→ 199\n")
}

// agreesInWriting holds what is written against the plain text, and reads it.
func agreesInWriting(t *testing.T, x api.Target) {
	t.Helper()
	if !plainCan(x) {
		refused(t, x, api.ErrArg)
		return
	}
	tells(t, x, plainText(x))
}

// Every Op and end with all that they may have, more or less than their own, against the plain text.
func TestAgreesWithThePlainText(t *testing.T) {
	few := []int{-1, 0, 1, 64}
	for o := api.OpConst - 1; o <= api.OpGet+1; o++ {
		for _, d := range few {
			for _, a := range few {
				for _, b := range few {
					for _, imm := range few {
						agreesInWriting(t, ofIns(api.Ins{Op: o, Dst: d, A: a, B: b, Imm: imm}))
						agreesInWriting(t, ofIns(api.Ins{Op: o, Dst: d, A: a, Callee: b, Many: imm}))
					}
				}
			}
		}
	}
	far := []int{-2, -1, 0, 1, 63, 64, 199, 200}
	for k := api.TermJump - 1; k <= api.TermTrap+1; k++ {
		for _, a := range far {
			for _, x := range far {
				for _, y := range far {
					agreesInWriting(t, ofEnd(api.Term{Kind: k, A: a, To: [2]int{x, y}}))
				}
			}
		}
	}
}

// filled is a target whose text has that many bytes, at most some 300000.
func filled(size int) api.Target {
	x := target(0, make([]api.Block, 9)...)
	bytes := size - len("target 0\n") - 9*len("block 0\ntrap\n")
	short, long := len("r0 ← r0\n"), len("r10 ← r0\n")
	lines := slices.Repeat([]api.Ins{move(0, 0)}, bytes/short)
	for n := range bytes % short * (long - short) {
		lines[n].Dst = 10
	}
	for n := range x.Blocks {
		many := min(4000, len(lines))
		x.Blocks[n] = block(trap(), lines[:many]...)
		lines = lines[many:]
	}
	return x
}

func TestPrintOfLongTargets(t *testing.T) {
	for _, size := range []int{1<<18 - 1, 1 << 18} {
		x := filled(size)
		s, e := Print(x)
		if e != api.OK || len(s) != size || s != plainText(x) {
			t.Fatalf("%d, %d bytes, not %d", e, len(s), size)
		}
		parses(t, s, x)
	}
	for _, size := range []int{1<<18 + 1, 1<<18 + 2, 300000} {
		x := filled(size)
		if s := plainText(x); len(s) != size {
			t.Fatal(len(s), size)
		}
		refused(t, x, api.ErrLong)
	}
	// A line ends where no more bytes may be, and one more line is there.
	x := filled(1 << 18)
	x.Blocks = append(x.Blocks, block(trap()))
	refused(t, x, api.ErrLong)
	// As much as there may be.
	x = target(400, slices.Repeat([]api.Block{block(trap(), slices.Repeat([]api.Ins{two(api.OpSame, 63, 62, 61)}, 4000)...)}, 200)...)
	refused(t, x, api.ErrLong)
	// ErrArg stands ahead of it, however far behind.
	x.Blocks[199] = block(trap(), move(64, 0))
	refused(t, x, api.ErrArg)
	x.Blocks[199] = block(ret(-2))
	refused(t, x, api.ErrArg)
	x = filled(1<<18 + 1)
	x.Frame = 401
	refused(t, x, api.ErrArg)
}

func TestPrintChangesAndKeepsNothing(t *testing.T) {
	x := target(3, block(ret(2), call(3, 2), put(1, 2), let(1, 7)), block(ret(63)), block(branch(5, 199, 0)))
	x.Blocks = append(make([]api.Block, 0, 300), x.Blocks...)
	was := like(x)
	s, _ := Print(x)
	if !same(x, was) || !reflect.DeepEqual(x.Blocks[:cap(x.Blocks)][3:], make([]api.Block, 297)) {
		t.Error("changed", x)
	}
	x.Blocks[0].Ins[0].Callee, x.Blocks[0].Term.A, x.Frame = 9, 9, 9
	if again, _ := Print(was); again != s || s != "target 3\nblock 0\ncall 3 2\ns1 ← r2\nr1 ← const 7\nreturn r2\nblock 1\nreturn r63\nblock 2\nr5 → 199 0\n" {
		t.Error(s, again)
	}
	wrong := target(3, block(ret(2), let(1, 7)), block(ret(64)))
	was = like(wrong)
	if Print(wrong); !same(wrong, was) {
		t.Error("changed", wrong)
	}
}

// P7.2

func TestParseOfOtherwiseWrittenTexts(t *testing.T) {
	x := target(12, block(branch(1, 1, 0), let(2, -5), store(1, 0, 2), put(3, 1)), block(ret(-1), call(7, 2), get(1, 3)))
	for _, s := range []string{
		"target 12\nblock 0\nr2 ← const -5\nstore r1 0 r2\ns3 ← r1\nr1 → 1 0\nblock 1\ncall 7 2\nr1 ← s3\nreturn",
		"\n \n;→ a remark ; Ä\n\t target\t 0012;block\n\n\n  block 000\nr2←const-5\nstore r1 -0 r2 \ns3\t←r1\nr1→01 00; r9\n\t\nblock 1\ncall 0007 02\n;\nr1←s3\nreturn\n\n;end",
		"target 000000000000000000000012\nblock -0\nr2 ← const -0000000000000000000000000000000005\nstore r1 00000000000000000000000000000000 r2\ns3 ← r1\nr1 → 1 -0\nblock 0000001\ncall 7 2\nr1 ← s3;\nreturn\n\n\n",
	} {
		parses(t, s, x)
	}
	parses(t, ";\n\ntarget -0;\n;\nblock 00 ; 1\n\t→0000199", target(0, block(jump(199))))
}

func TestParseOfWrongTexts(t *testing.T) {
	for _, x := range []struct {
		s         string
		line, col int
		e         api.Errno
	}{
		{"", 0, 0, api.ErrWord}, {"\n\n;target", 0, 0, api.ErrWord}, {"target", 0, 0, api.ErrWord}, {"target\n", 0, 0, api.ErrWord}, {"target\n0", 1, 7, api.ErrWord}, {"target 0", 0, 0, api.ErrWord}, {"target 0\n\n", 0, 0, api.ErrWord}, {"\n block 0\ntrap", 2, 2, api.ErrWord}, {"5", 1, 1, api.ErrWord}, {"→", 1, 1, api.ErrWord}, {"targets 0\nblock 0\ntrap", 1, 1, api.ErrWord}, {"fun\nblock 0\ntrap", 1, 1, api.ErrWord}, {"0\nblock 0\ntrap", 1, 1, api.ErrWord}, {"trap", 1, 1, api.ErrWord},
		{"target r1\nblock 0\ntrap", 1, 8, api.ErrWord}, {"target →", 1, 8, api.ErrWord}, {"target target", 1, 8, api.ErrWord}, {"target block 0", 1, 8, api.ErrWord}, {"target 0 0", 1, 10, api.ErrWord}, {"target 0 block 0", 1, 10, api.ErrWord}, {"target 401", 1, 8, api.ErrLong}, {"target -1", 1, 8, api.ErrLong}, {"target 401 x", 1, 8, api.ErrLong},
		{"target 0\ntarget 0", 2, 1, api.ErrWord}, {"target 0\n0", 2, 1, api.ErrWord}, {"target 0\ntrap", 2, 1, api.ErrWord}, {"target 0\nr1 ← r1", 2, 1, api.ErrWord}, {"target 0\nblock", 0, 0, api.ErrWord}, {"target 0\nblock\n0", 2, 6, api.ErrWord}, {"target 0\nblock r1", 2, 7, api.ErrWord}, {"target 0\nblock 1\ntrap", 2, 7, api.ErrLong}, {"target 0\nblock -1", 2, 7, api.ErrLong}, {"target 0\nblock 200", 2, 7, api.ErrLong}, {"target 0\nblock 0 trap", 2, 9, api.ErrWord}, {"target 0\nblock 0 0", 2, 9, api.ErrWord}, {"target 0\nblock 0", 0, 0, api.ErrWord}, {"target 0\nblock 0\n", 0, 0, api.ErrWord}, {"target 0\nblocks 0", 2, 1, api.ErrWord},
		{in("trap\nblock 0\ntrap"), 4, 7, api.ErrLong}, {in("trap\nblock 2"), 4, 7, api.ErrLong}, {in("trap\ntrap"), 4, 1, api.ErrWord}, {in("trap\nr1 ← r1"), 4, 1, api.ErrWord}, {in("trap\ntarget"), 4, 1, api.ErrWord}, {in("trap\nblock 1"), 0, 0, api.ErrWord}, {in("trap\nblock 1\nblock 2\ntrap"), 5, 1, api.ErrWord}, {in("r1 ← r2\nblock 1\ntrap"), 4, 1, api.ErrWord}, {in("r1 ← r2"), 0, 0, api.ErrWord}, {in("trap\nblock 1\ntrap\nblock 1\ntrap"), 6, 7, api.ErrLong}, {in("trap\n\n ; r\n\t 5"), 6, 3, api.ErrWord},
		{in("trap X"), 3, 6, api.ErrRune}, {in("X trap"), 3, 1, api.ErrRune}, {in("trap\n\xff"), 4, 1, api.ErrRune}, {"x\n1x", 2, 2, api.ErrRune}, {"x\n" + strings.Repeat("a", 17), 2, 1, api.ErrLong}, {"x 1099511627777", 1, 3, api.ErrLong}, {"x 1099511627777 X", 1, 3, api.ErrLong}, {"x X 1099511627777", 1, 3, api.ErrRune}, {in("r1 ← - 1"), 3, 6, api.ErrRune}, {in("return R1"), 3, 8, api.ErrRune},
	} {
		breaks(t, x.s, x.line, x.col, x.e)
	}
}

// Lines that break, and the column of their first word that may not stand there; 0, if there is none any more.
func TestParseOfWrongLines(t *testing.T) {
	for _, x := range []struct {
		s   string
		col int
		e   api.Errno
	}{
		{"5", 1, api.ErrWord}, {"←", 1, api.ErrWord}, {"=", 1, api.ErrWord}, {"add r1 r2", 1, api.ErrWord}, {"const 1", 1, api.ErrWord}, {"load r1 1", 1, api.ErrWord}, {"copy r1", 1, api.ErrWord}, {"move r1 r2", 1, api.ErrWord}, {"put s1 r1", 1, api.ErrWord}, {"get r1 s1", 1, api.ErrWord}, {"jump 1", 1, api.ErrWord}, {"traps", 1, api.ErrWord}, {"block 1", 1, api.ErrWord}, {"target", 1, api.ErrWord}, {"fun", 1, api.ErrWord}, {"[", 1, api.ErrWord}, {"v1 ← v2", 1, api.ErrWord}, {"stores r1 1 r2", 1, api.ErrWord}, {"rs1 ← r1", 1, api.ErrWord}, {"sr1 ← r1", 1, api.ErrWord}, {"r1s ← r1", 1, api.ErrWord}, {"r_1 ← r1", 1, api.ErrWord},
		{"r1", 0, api.ErrWord}, {"r1 r2", 4, api.ErrWord}, {"r1 = r2", 4, api.ErrWord}, {"r1 5", 4, api.ErrWord}, {"r1 add r2 r3", 4, api.ErrWord}, {"r1 s1", 4, api.ErrWord}, {"r1 ← ←", 6, api.ErrWord}, {"r1 ←", 0, api.ErrWord}, {"r1 ← 5", 6, api.ErrWord}, {"r1 ← →", 6, api.ErrWord}, {"r1 ← →  r2", 6, api.ErrWord}, {"r1 ← mod r2 r3", 6, api.ErrWord}, {"r1 ← store r2 1 r3", 6, api.ErrWord}, {"r1 ← return", 6, api.ErrWord}, {"r1 ← trap", 6, api.ErrWord}, {"r1 ← copy r2", 6, api.ErrWord}, {"r1 ← move r2", 6, api.ErrWord}, {"r1 ← get s2", 6, api.ErrWord}, {"r1 ← call 1 1", 6, api.ErrWord}, {"r1 ← v2", 6, api.ErrWord}, {"r1 ← r2 r3", 9, api.ErrWord}, {"r1 ← r2 ← r3", 9, api.ErrWord}, {"r1 ← r2 5", 9, api.ErrWord}, {"r1 ← s2 s3", 9, api.ErrWord}, {"r1 ← s2 5", 9, api.ErrWord},
		{"s1", 0, api.ErrWord}, {"s1 r1", 4, api.ErrWord}, {"s1 5", 4, api.ErrWord}, {"s1 =", 4, api.ErrWord}, {"s1 → 1 1", 4, api.ErrWord}, {"s1 ←", 0, api.ErrWord}, {"s1 ← s1", 6, api.ErrWord}, {"s1 ← s2", 6, api.ErrWord}, {"s1 ← 5", 6, api.ErrWord}, {"s1 ← const 5", 6, api.ErrWord}, {"s1 ← add r1 r2", 6, api.ErrWord}, {"s1 ← load r1 2", 6, api.ErrWord}, {"s1 ← ←", 6, api.ErrWord}, {"s1 ← r1 r2", 9, api.ErrWord}, {"s1 ← r1 5", 9, api.ErrWord}, {"s1 ← r1 ← r2", 9, api.ErrWord},
		{"r1 ← const", 0, api.ErrWord}, {"r1 ← const r2", 12, api.ErrWord}, {"r1 ← const s2", 12, api.ErrWord}, {"r1 ← const 5 5", 14, api.ErrWord}, {"r1 ← const → 5", 12, api.ErrWord},
		{"r1 ← add", 0, api.ErrWord}, {"r1 ← add r2", 0, api.ErrWord}, {"r1 ← add 2 r2", 10, api.ErrWord}, {"r1 ← sub r2 2", 13, api.ErrWord}, {"r1 ← same r2 r3 r4", 17, api.ErrWord}, {"r1 ← mul r2, r3", 12, api.ErrWord}, {"r1 ← div s2 r1", 10, api.ErrWord}, {"r1 ← less r1 s2", 14, api.ErrWord}, {"r1 ← or r1 or", 12, api.ErrWord}, {"r1 ← and r1 and", 13, api.ErrWord}, {"r1 ← xor add r1", 10, api.ErrWord},
		{"r1 ← load", 0, api.ErrWord}, {"r1 ← load r2", 0, api.ErrWord}, {"r1 ← load 1 r2", 11, api.ErrWord}, {"r1 ← load r2 r3", 14, api.ErrWord}, {"r1 ← load r2 1 r3", 16, api.ErrWord}, {"r1 ← load s2 1", 11, api.ErrWord}, {"r1 ← load r2 s3", 14, api.ErrWord},
		{"store", 0, api.ErrWord}, {"store r1", 0, api.ErrWord}, {"store r1 1", 0, api.ErrWord}, {"store r1 r2 1", 10, api.ErrWord}, {"store 1 r1 r2", 7, api.ErrWord}, {"store r1 1 2", 12, api.ErrWord}, {"store r1 1 s2", 12, api.ErrWord}, {"store s1 1 r2", 7, api.ErrWord}, {"store r1 1 r2 r3", 15, api.ErrWord}, {"store ← r1", 7, api.ErrWord},
		{"call", 0, api.ErrWord}, {"call r1", 6, api.ErrWord}, {"call 1", 0, api.ErrWord}, {"call 1 r1", 8, api.ErrWord}, {"call 1 s1", 8, api.ErrWord}, {"call 1 2 3", 10, api.ErrWord}, {"call 1 2 r1", 10, api.ErrWord}, {"call 100 9", 6, api.ErrLong}, {"call 1 9 9", 8, api.ErrLong}, {"call call", 6, api.ErrWord}, {"call → 1", 6, api.ErrWord},
		{"→", 0, api.ErrWord}, {"→ r1", 3, api.ErrWord}, {"→ s1", 3, api.ErrWord}, {"→ 1 2", 5, api.ErrWord}, {"→ →", 3, api.ErrWord}, {"→ 200 1", 3, api.ErrLong},
		{"r1 →", 0, api.ErrWord}, {"r1 → 1", 0, api.ErrWord}, {"r1 → 200 200", 6, api.ErrLong}, {"r1 → 1, 2", 7, api.ErrWord}, {"r1 → r2 r3", 6, api.ErrWord}, {"r1 → 1 r3", 8, api.ErrWord}, {"r1 → 1 2 3", 10, api.ErrWord}, {"r1 → → 1 2", 6, api.ErrWord},
		{"return 5", 8, api.ErrWord}, {"return -1", 8, api.ErrWord}, {"return s1", 8, api.ErrWord}, {"return r1 r2", 11, api.ErrWord}, {"return r1 5", 11, api.ErrWord}, {"return return", 8, api.ErrWord}, {"return →", 8, api.ErrWord}, {"trap trap", 6, api.ErrWord}, {"trap r1", 6, api.ErrWord}, {"trap 1", 6, api.ErrWord},
	} {
		line, col := 3, x.col
		if x.col == 0 {
			line = 0
		}
		breaks(t, in(x.s), line, col, x.e)
		if x.col == 0 {
			// With another line behind it, the end of the line may not stand there.
			line, col = 3, len([]rune(x.s))+1
		}
		breaks(t, in(x.s)+"\ntrap\n", line, col, x.e)
	}
}

// Words that are no register, no slot, at each place where there is one.
func TestParseOfWordsThatAreNoPlaces(t *testing.T) {
	both := []string{"r", "s", "r00", "r01", "r063", "s00", "s01", "s0399", "r64", "r65", "r100", "s400", "s401", "s1000", "s63s", "r1r", "rr1", "ss1", "r_", "ρ1", "σ1", "v1", "x1", "a0", "q0", "t0", "r1_", "r999999999999999", "s999999999999999", "const1", "ra", "sa"}
	try := func(words []string, before, behind string) {
		for _, w := range words {
			breaks(t, in(before+w+behind), 3, 1+len([]rune(before)), api.ErrWord)
		}
	}
	try(both, "", " ← r1\ntrap")
	try(both, "", " → 1 1")
	try(both, "r1 ← ", "\ntrap")
	try(both, "", "")
	regs := append(both, "s0", "s1", "s63", "s399")
	for _, x := range [][2]string{{"s1 ← ", "\ntrap"}, {"r1 ← add ", " r1"}, {"r1 ← add r1 ", "\ntrap"}, {"r1 ← load ", " 1\ntrap"}, {"store ", " 1 r1\ntrap"}, {"store r1 1 ", "\ntrap"}, {"return ", ""}} {
		try(regs, x[0], x[1])
	}
	// A word that is too long is none of chapter 1.
	breaks(t, in("r0000000000000000 ← r1"), 3, 1, api.ErrLong)
	// What is written apart is not one word.
	breaks(t, in("r 1 ← r1"), 3, 1, api.ErrWord)
	breaks(t, in("r1 ← s 1"), 3, 6, api.ErrWord)
	breaks(t, in("r+1 ← r1"), 3, 1, api.ErrWord)
	breaks(t, in("r-1 ← r1"), 3, 1, api.ErrWord)
}

func TestPlacesByTheirNames(t *testing.T) {
	for _, s := range []string{"", "0", "1", "-1", "r", "s", "r-1", "s-1", "r+1", "s+1", "r-0", "s-0", "r 1", "s 1", "r1 ", "s1 ", "r00", "s00", "r64", "s400", "rr1", "ss1", "r0x1", "s1_0", "R1", "S1", "r1099511627776", "s99999999999999999999"} {
		if n, ok := regOf(s); ok || n != 0 {
			t.Errorf("%q is register %d", s, n)
		}
		if n, ok := slotOf(s); ok || n != 0 {
			t.Errorf("%q is slot %d", s, n)
		}
	}
}

func TestParseOfMoreThanMayBe(t *testing.T) {
	full := in(strings.Repeat("r1 ← r2\n", 4000))
	most := slices.Repeat([]api.Ins{move(1, 2)}, 4000)
	parses(t, full+"trap", target(0, block(trap(), most...)))
	for _, x := range []struct {
		s         string
		line, col int
		e         api.Errno
	}{
		{full, 0, 0, api.ErrWord}, {full + "block", 4003, 1, api.ErrWord}, {full + "r1 ← r2\ntrap", 4003, 8, api.ErrLong}, {full + "r1 ← r2", 0, 0, api.ErrLong}, {full + "r1 ← r2\n;\n", 0, 0, api.ErrLong}, {full + "r1 ← r2 r3\ntrap", 4003, 9, api.ErrLong}, {full + "r1 ← add r2\ntrap", 4003, 12, api.ErrWord}, {full + "store r1 1 r2 ;\n\ntrap", 4003, 16, api.ErrLong}, {full + "call 1 9\ntrap", 4003, 8, api.ErrLong}, {full + "call 1 8\ntrap", 4003, 9, api.ErrLong}, {full + "call 100 1", 4003, 6, api.ErrLong}, {full + "s1 ← r1 5", 4003, 9, api.ErrLong}, {full + "r1 ← s1\ntrap", 4003, 8, api.ErrLong}, {full + "r1 ← s400\ntrap", 4003, 6, api.ErrWord},
		{full + "trap\nblock 1\n" + strings.Repeat("r1 ← r2\n", 4001) + "trap", 8005, 8, api.ErrLong}, {full + "r1 ← r2\nr1 ← r2\nr1 ←", 4003, 8, api.ErrLong}, {full + "r1 ← r2\nX", 4004, 1, api.ErrRune},
		{trapsText(200) + "block 200\ntrap", 402, 1, api.ErrLong}, {trapsText(200) + "\n x", 403, 2, api.ErrLong}, {trapsText(200) + "\n 5", 403, 2, api.ErrLong}, {trapsText(200) + "r1", 402, 1, api.ErrLong}, {trapsText(200) + "→ 1", 402, 1, api.ErrLong}, {trapsText(201), 402, 1, api.ErrLong}, {trapsText(300), 402, 1, api.ErrLong}, {trapsText(199) + "block 200\ntrap", 400, 7, api.ErrLong}, {trapsText(200) + "X", 402, 1, api.ErrRune}, {trapsText(199) + "block 199\ntrap x", 401, 6, api.ErrWord}, {trapsText(199) + "block 199\n", 0, 0, api.ErrWord},
	} {
		breaks(t, x.s, x.line, x.col, x.e)
	}
}

func TestParseOfLongTexts(t *testing.T) {
	s := in("trap\n")
	for _, fill := range []string{" ", "\n", ";", "\t"} {
		longest := s + strings.Repeat(fill, 1<<18-len(s))
		parses(t, longest, traps(1))
		breaks(t, longest+fill, 0, 0, api.ErrLong)
	}
	// Bytes are counted, not runes.
	longest := s + ";" + strings.Repeat("→", (1<<18-len(s)-1)/3)
	parses(t, longest, traps(1))
	breaks(t, longest+"→", 0, 0, api.ErrLong)
	// It is told ahead of all else.
	breaks(t, "\xff"+strings.Repeat("X", 1<<18), 0, 0, api.ErrLong)
	breaks(t, "\xff"+strings.Repeat("X", 1<<18-1), 1, 1, api.ErrRune)
	breaks(t, "target"+strings.Repeat(" 1", 1<<16), 1, 10, api.ErrWord)
	breaks(t, in(strings.Repeat("r1 ", 1<<16)), 3, 4, api.ErrWord)
	breaks(t, strings.Repeat("block 0\n", 1<<15), 1, 1, api.ErrWord)
}

// A text may be read whose target, written, is too long.
func TestParseOfTextsThatAreWrittenLonger(t *testing.T) {
	s, x := "target 0\n", api.Target{}
	for n := range 8 {
		s += "block " + strconv.Itoa(n) + "\n" + strings.Repeat("r1←r2\n", 4000) + "trap\n"
		x.Blocks = append(x.Blocks, block(trap(), slices.Repeat([]api.Ins{move(1, 2)}, 4000)...))
	}
	parses(t, s, x)
	refused(t, x, api.ErrLong)
}

func TestParseHandsOutNewMemory(t *testing.T) {
	const s = "target 1\nblock 0\nr1 ← r2\ncall 3 2\ns0 ← r1\ntrap\nblock 1\nr4 ← r5\nreturn\n"
	x, _, _, _ := Parse(s)
	for b := range x.Blocks {
		l := x.Blocks[b].Ins
		for n := range l[:cap(l)] {
			l[:cap(l)][n] = let(63, 63)
		}
	}
	x.Blocks[0].Ins[0] = put(9, 9)
	if x.Blocks[1].Ins[0].Op != api.OpConst {
		t.Error("blocks share their instructions")
	}
	x.Frame, x.Blocks[0].Term = 9, jump(9)
	parses(t, s, target(1, block(trap(), move(1, 2), call(3, 2), put(0, 1)), block(ret(-1), move(4, 5))))
}

// agrees holds a text's reading against the plain one.
func agrees(t *testing.T, s string) {
	t.Helper()
	x, line, col, e := Parse(s)
	y, wantLine, wantCol, want := plainParse(s)
	if line != wantLine || col != wantCol || e != want || !same(x, y) {
		t.Fatalf("%.200q is read %.200v, %d, %d, %d, not %.200v, %d, %d, %d", s, x, line, col, e, y, wantLine, wantCol, want)
	}
	if e == api.OK {
		agreesInWriting(t, x)
	}
}

// All short lines of some words, as they stand in a block.
func TestAgreesWithThePlainReadingOfLines(t *testing.T) {
	words := []string{"r1 ", "r63 ", "r64 ", "s0 ", "s400 ", "0 ", "200 ", "-1 ", "call ", "store ", "load ", "add ", "const ", "return ", "trap ", "→ ", "← ", "\n"}
	texts(words, 4, func(s string) { agrees(t, in(s+"\ntrap")) })
	texts(words[:10], 4, func(s string) { agrees(t, in("r3 ← "+s)) })
	texts(words[:10], 3, func(s string) { agrees(t, in("s3 ← "+s+"\ntrap")) })
	texts([]string{"r1 ", "s2 ", "x ", "\n", "1099511627776 ", "-1099511627777 "}, 5, func(s string) { agrees(t, in("store r3 "+s+"\ntrap")) })
	texts([]string{"8 ", "9 ", "99 ", "100 ", "r0 ", "\n"}, 4, func(s string) { agrees(t, in("call "+s+"\ntrap")) })
}

// All short rows of lines.
func TestAgreesWithThePlainReadingOfBlocks(t *testing.T) {
	texts([]string{"target 1\n", "block 0\n", "block 1\n", "r1 ← r2\n", "s1 ← r2\n", "trap\n", "return r1 ", "\n", "→ 1\n", "x"}, 5, func(s string) { agrees(t, s) })
	texts([]string{"target ", "0 ", "400 ", "401 ", "007 ", "-0 ", "\n", "block ", "trap"}, 5, func(s string) { agrees(t, s) })
}

// All short words of places.
func TestAgreesWithThePlainReadingOfPlaces(t *testing.T) {
	texts([]string{"r", "s", "0", "3", "6", "9", "-", "_"}, 5, func(s string) { agrees(t, in(s+" ← "+s+"\ntrap")) })
}

// What is there, with one word left out, put in, or taken for another one.
func TestAgreesWithThePlainReadingOfChangedTexts(t *testing.T) {
	for n, x := range insLines {
		e := endLines[n%len(endLines)].t
		whole, _ := Print(target(n, block(e, x.i), block(e)))
		words := strings.SplitAfter(strings.ReplaceAll(whole, "\n", " \n "), " ")
		for n := range words {
			for _, w := range []string{"", "r1 ", "r64 ", "s1 ", "s400 ", "7 ", "-1 ", "100 ", "→ ", "← ", "\n ", "call ", "or ", "trap ", "block ", "; ", "X "} {
				agrees(t, strings.Join(words[:n], "")+w+strings.Join(words[n+1:], ""))
				agrees(t, strings.Join(words[:n], "")+w+strings.Join(words[n:], ""))
			}
		}
	}
}

func TestAgreesWithThePlainReadingAtTheLimits(t *testing.T) {
	ends := []string{"trap\n", "r1 ← const 2\n", "r1 ← r2 r3\n", "store r1 1 r2 ", "call 1 1\n", "s1 ← r1 ", "call 1 →", "r1 ← ", "block 1\n", "block 200\n", "x", "5", "return"}
	for _, many := range []int{3998, 3999, 4000} {
		full := in(strings.Repeat("r1 ← const 2\n", many))
		texts(ends, 1, func(s string) { agrees(t, full+s) })
	}
	full := in(strings.Repeat("r1 ← const 2\n", 3999))
	for _, s := range ends {
		agrees(t, full+"r1 ← s2\n"+s)
		agrees(t, full+s+"\ntrap")
	}
	for many := 198; many < 202; many++ {
		texts(ends, 2, func(s string) { agrees(t, trapsText(many)+s) })
	}
}

// P7.3

func TestWhatIsWrittenIsReadTheSame(t *testing.T) {
	for n := range 200 {
		x := some(n)
		s, e := Print(x)
		if want := plainText(x); e != api.OK || s != want {
			t.Fatalf("%.200v is written %.200q, %d", x, s, e)
		}
		parses(t, s, x)
		if again, _ := Print(x); again != s {
			t.Fatalf("%.200v is written %.200q, then %.200q", x, s, again)
		}
	}
}

// All that is right for a machine can be written, if it is not too long.
func TestWhatIsRightIsWritten(t *testing.T) {
	m := api.Machine{Regs: 4, Args: []int{0, 1}, Ret: 1, Saved: []int{2, 3}}
	x := target(2, block(branch(3, 1, 0), put(1, 3), get(0, 1), move(2, 0), call(99, 2), two(api.OpDiv, 3, 2, 1)), block(ret(1), let(1, 5)), block(ret(-1)), block(trap()))
	if e := mir.Right(m, x); e != api.OK {
		t.Fatal(e)
	}
	s, e := Print(x)
	if e != api.OK {
		t.Fatal(e)
	}
	if y, _, _, e := Parse(s); e != api.OK || mir.Right(m, y) != api.OK || !same(x, y) {
		t.Error(y, e)
	}
}

// some is the target of a number: unlike ones of unlike numbers, all of which can be written.
func some(n int) (x api.Target) {
	next := func(below int) int {
		n = (n*1103515245 + 12345) & (1<<31 - 1)
		return n >> 8 % below
	}
	x.Frame = next(401)
	for range 1 + next(20) {
		var b api.Block
		for range next(200) {
			b.Ins = append(b.Ins, insLines[next(len(insLines))].i)
		}
		b.Term = endLines[next(len(endLines))].t
		x.Blocks = append(x.Blocks, b)
	}
	return x
}
