package read

import (
	"math"
	"reflect"
	"slices"
	"strconv"
	"strings"
	"testing"

	"intarsia/api"
)

func jump(to int) api.Term        { return api.Term{Kind: api.TermJump, To: [2]int{to}} }
func branch(a, x, y int) api.Term { return api.Term{Kind: api.TermBranch, A: a, To: [2]int{x, y}} }
func ret(a int) api.Term          { return api.Term{Kind: api.TermReturn, A: a} }
func trap() api.Term              { return api.Term{Kind: api.TermTrap} }

func let(d, n int) api.Ins              { return api.Ins{Op: api.OpConst, Dst: d, Imm: n} }
func copyOf(d, a int) api.Ins           { return api.Ins{Op: api.OpCopy, Dst: d, A: a} }
func two(o api.Op, d, a, b int) api.Ins { return api.Ins{Op: o, Dst: d, A: a, B: b} }
func load(d, a, n int) api.Ins          { return api.Ins{Op: api.OpLoad, Dst: d, A: a, Imm: n} }
func store(a, n, b int) api.Ins         { return api.Ins{Op: api.OpStore, A: a, B: b, Imm: n} }
func call(d, callee int, args ...int) api.Ins {
	return api.Ins{Op: api.OpCall, Dst: d, Callee: callee, Args: args}
}

func block(t api.Term, l ...api.Ins) api.Block  { return api.Block{Ins: l, Term: t} }
func fun(params []int, l ...api.Block) api.Func { return api.Func{Params: params, Blocks: l} }

// traps is a function of that many blocks.
func traps(many int) (f api.Func) {
	for range many {
		f.Blocks = append(f.Blocks, block(trap()))
	}
	return f
}

// trapsText is its text.
func trapsText(many int) string {
	s := "fun\n"
	for n := range many {
		s += "block " + strconv.Itoa(n) + "\ntrap\n"
	}
	return s
}

// upTo are variables from 1 on.
func upTo(most int) (l []int) {
	for v := 1; v <= most; v++ {
		l = append(l, v)
	}
	return l
}

// like makes a list without elements and a nil one alike, and shares nothing with f.
func like(f api.Func) api.Func {
	f.Params, f.Blocks = append([]int{}, f.Params...), append([]api.Block{}, f.Blocks...)
	for b := range f.Blocks {
		f.Blocks[b].Ins = append([]api.Ins{}, f.Blocks[b].Ins...)
		for i := range f.Blocks[b].Ins {
			f.Blocks[b].Ins[i].Args = append([]int{}, f.Blocks[b].Ins[i].Args...)
		}
	}
	return f
}

func same(f, g api.Func) bool { return reflect.DeepEqual(like(f), like(g)) }

// tells fails unless f is written as s, and s is read as f.
func tells(t *testing.T, f api.Func, s string) {
	t.Helper()
	if got, e := Print(f); e != api.OK || got != s {
		t.Errorf("%v is written %q, %d, not %q", f, got, e, s)
	}
	parses(t, s, f)
}

// parses fails unless s is read as f.
func parses(t *testing.T, s string, f api.Func) {
	t.Helper()
	if g, line, col, e := Parse(s); line != 0 || col != 0 || e != api.OK || !same(f, g) {
		t.Errorf("%q is read %v, %d, %d, %d, not %v", s, g, line, col, e, f)
	}
}

// breaks fails unless s has that error at that place.
func breaks(t *testing.T, s string, line, col int, e api.Errno) {
	t.Helper()
	if f, l, c, got := Parse(s); l != line || c != col || got != e || !reflect.DeepEqual(f, api.Func{}) {
		t.Errorf("%.200q is read %v, %d, %d, %d, not %d, %d, %d", s, f, l, c, got, line, col, e)
	}
}

// insLines are instructions, and how they are written.
var insLines = []struct {
	i api.Ins
	s string
}{
	{let(1, 0), "v1 ← const 0"}, {let(200, -5), "v200 ← const -5"}, {let(10, 1<<40), "v10 ← const 1099511627776"}, {let(7, -1<<40), "v7 ← const -1099511627776"},
	{two(api.OpAdd, 1, 2, 3), "v1 ← add v2 v3"}, {two(api.OpSub, 1, 2, 3), "v1 ← sub v2 v3"}, {two(api.OpMul, 1, 2, 3), "v1 ← mul v2 v3"},
	{two(api.OpDiv, 1, 2, 3), "v1 ← div v2 v3"}, {two(api.OpAnd, 1, 2, 3), "v1 ← and v2 v3"}, {two(api.OpOr, 1, 2, 3), "v1 ← or v2 v3"},
	{two(api.OpXor, 1, 2, 3), "v1 ← xor v2 v3"}, {two(api.OpLess, 1, 2, 3), "v1 ← less v2 v3"}, {two(api.OpSame, 200, 199, 20), "v200 ← same v199 v20"},
	{load(1, 2, 3), "v1 ← load v2 3"}, {load(9, 9, -1<<40), "v9 ← load v9 -1099511627776"}, {store(1, 2, 3), "store v1 2 v3"}, {store(3, 1<<40, 200), "store v3 1099511627776 v200"}, {store(1, -1, 1), "store v1 -1 v1"},
	{call(1, 2, 3), "v1 ← call 2 v3"}, {call(0, 2, 3), "call 2 v3"}, {call(200, 0), "v200 ← call 0"}, {call(0, 99), "call 99"},
	{call(8, 99, upTo(8)...), "v8 ← call 99 v1 v2 v3 v4 v5 v6 v7 v8"}, {call(0, 10, 1, 1, 200, 1, 1, 20, 1, 1), "call 10 v1 v1 v200 v1 v1 v20 v1 v1"},
	{copyOf(1, 2), "v1 ← v2"}, {copyOf(200, 200), "v200 ← v200"},
}

// endLines are ends, and how they are written.
var endLines = []struct {
	t api.Term
	s string
}{
	{jump(0), "→ 0"}, {jump(1), "→ 1"}, {jump(63), "→ 63"}, {branch(1, 2, 3), "v1 → 2 3"}, {branch(200, 0, 63), "v200 → 0 63"}, {branch(20, 63, 0), "v20 → 63 0"}, {branch(3, 7, 7), "v3 → 7 7"},
	{ret(0), "return"}, {ret(1), "return v1"}, {ret(200), "return v200"}, {trap(), "trap"},
}

// P4.1, P4.2

func TestEachInstructionAndEnd(t *testing.T) {
	for _, x := range insLines {
		tells(t, fun(nil, block(trap(), x.i)), "fun\nblock 0\n"+x.s+"\ntrap\n")
	}
	for _, x := range endLines {
		tells(t, fun(nil, block(x.t)), "fun\nblock 0\n"+x.s+"\n")
	}
}

func TestWholeFunctions(t *testing.T) {
	var all []api.Ins
	s := "fun v3 v1 v200\nblock 0\n"
	for _, x := range insLines {
		all, s = append(all, x.i), s+x.s+"\n"
	}
	tells(t, fun([]int{3, 1, 200}, block(branch(3, 1, 2), all...), block(jump(2)), block(ret(1), copyOf(1, 3))), s+"v3 → 1 2\nblock 1\n→ 2\nblock 2\nv1 ← v3\nreturn v1\n")
	tells(t, fun([]int{1}, block(ret(2), two(api.OpAdd, 2, 1, 1))), "fun v1\nblock 0\nv2 ← add v1 v1\nreturn v2\n")
	tells(t, fun([]int{}, block(trap(), []api.Ins{}...)), "fun\nblock 0\ntrap\n")
	tells(t, fun(upTo(8), block(trap())), "fun v1 v2 v3 v4 v5 v6 v7 v8\nblock 0\ntrap\n")
	tells(t, traps(64), trapsText(64))
	tells(t, fun(nil, block(trap(), slices.Repeat([]api.Ins{copyOf(1, 2)}, 64)...), block(ret(0), slices.Repeat([]api.Ins{store(1, 2, 3)}, 64)...)),
		"fun\nblock 0\n"+strings.Repeat("v1 ← v2\n", 64)+"trap\nblock 1\n"+strings.Repeat("store v1 2 v3\n", 64)+"return\n")
}

func TestEachVariable(t *testing.T) {
	for v := 1; v <= api.MaxVars; v++ {
		n := "v" + strconv.Itoa(v)
		tells(t, fun([]int{v}, block(ret(v), call(v, 0, v), load(v, v, v), store(v, v, v))), "fun "+n+"\nblock 0\n"+n+" ← call 0 "+n+"\n"+n+" ← load "+n+" "+n[1:]+"\nstore "+n+" "+n[1:]+" "+n+"\nreturn "+n+"\n")
	}
}

// P4.1

func TestPrintOfWhatCanNotBeWritten(t *testing.T) {
	withIns := func(i api.Ins) api.Func { return fun(nil, block(trap(), i)) }
	for n, f := range []api.Func{
		{}, {Blocks: []api.Block{}}, {Params: []int{1}}, traps(65), traps(200), traps(201), traps(1 << 16), {Blocks: make([]api.Block, 1)}, {Blocks: make([]api.Block, 64)},
		fun(nil, block(trap(), slices.Repeat([]api.Ins{let(1, 1)}, 65)...)), fun(nil, block(trap()), block(trap(), slices.Repeat([]api.Ins{let(1, 1)}, 65)...)),
		fun(upTo(9), block(trap())), fun([]int{1, 1}, block(trap())), fun([]int{1, 2, 3, 4, 5, 6, 7, 1}, block(trap())), fun([]int{0}, block(trap())), fun([]int{-1}, block(trap())), fun([]int{201}, block(trap())), fun([]int{1, math.MinInt}, block(trap())),
		withIns(api.Ins{}), withIns(api.Ins{Op: api.OpMove, Dst: 1, A: 1}), withIns(api.Ins{Op: api.OpPut, A: 1, Imm: 1}), withIns(api.Ins{Op: api.OpGet, Dst: 1, Imm: 1}), withIns(api.Ins{Op: 18, Dst: 1}), withIns(api.Ins{Op: -1}),
		withIns(let(0, 1)), withIns(let(201, 1)), withIns(let(1, 1<<40+1)), withIns(let(1, -1<<40-1)), withIns(two(api.OpAdd, 1, 0, 1)), withIns(two(api.OpSame, 1, 1, 0)), withIns(two(api.OpLess, 1, 201, 1)), withIns(load(1, 0, 1)), withIns(load(1, 1, math.MinInt)),
		withIns(store(0, 1, 1)), withIns(store(1, 1, 201)), withIns(copyOf(1, 0)), withIns(copyOf(0, 1)), withIns(call(-1, 1)), withIns(call(1, -1)), withIns(call(1, 100)), withIns(call(1, 1, upTo(9)...)), withIns(call(0, 1, 0)), withIns(call(0, 1, 201)),
		withIns(api.Ins{Op: api.OpConst, Dst: 1, A: 1}), withIns(api.Ins{Op: api.OpCopy, Dst: 1, A: 1, Imm: 1}), withIns(api.Ins{Op: api.OpCopy, Dst: 1, A: 1, Many: 1}), withIns(api.Ins{Op: api.OpAdd, Dst: 1, A: 1, B: 1, Callee: 1}), withIns(api.Ins{Op: api.OpStore, Dst: 1, A: 1, B: 1}), withIns(api.Ins{Op: api.OpLoad, Dst: 1, A: 1, Args: []int{1}}),
		fun(nil, block(trap(), let(1, 1), api.Ins{})), fun(nil, block(trap()), block(trap(), let(1, 1), api.Ins{})), fun(nil, block(trap()), block(api.Term{})), fun(nil, block(api.Term{Kind: 5})), fun(nil, block(api.Term{Kind: -1})),
		fun(nil, block(jump(64))), fun(nil, block(jump(-1))), fun(nil, block(jump(math.MaxInt))), fun(nil, block(jump(math.MinInt))), fun(nil, block(branch(1, 0, 64))), fun(nil, block(branch(1, 64, 0))), fun(nil, block(branch(1, -1, 0))), fun(nil, block(branch(1, 0, -1))),
		fun(nil, block(trap()), block(jump(64))), fun(nil, block(branch(0, 0, 0))), fun(nil, block(branch(201, 0, 0))), fun(nil, block(ret(201))), fun(nil, block(ret(-1))), fun(nil, block(api.Term{Kind: api.TermTrap, A: 1})), fun(nil, block(api.Term{Kind: api.TermReturn, To: [2]int{1}})), fun(nil, block(api.Term{Kind: api.TermJump, To: [2]int{1, 1}})),
	} {
		if s, e := Print(f); s != "" || e != api.ErrArg {
			t.Errorf("%d: %.200q, %d", n, s, e)
		}
	}
}

// A function need not be right to be written.
func TestPrintOfWhatIsNotRight(t *testing.T) {
	tells(t, fun(nil, block(ret(7)), block(jump(0)), block(jump(63))), "fun\nblock 0\nreturn v7\nblock 1\n→ 0\nblock 2\n→ 63\n")
}

func TestPrintChangesAndKeepsNothing(t *testing.T) {
	f := fun([]int{2, 1}, block(ret(2), call(2, 3, 2, 1)))
	was := like(f)
	s, _ := Print(f)
	if !same(f, was) {
		t.Error("changed", f)
	}
	f.Params[0], f.Blocks[0].Ins[0].Args[0], f.Blocks[0].Term.A = 9, 9, 9
	if again, _ := Print(was); again != s || s != "fun v2 v1\nblock 0\nv2 ← call 3 v2 v1\nreturn v2\n" {
		t.Error(s, again)
	}
}

// Every Op and end with all that they may have, more or less than their own, against the plain text.
func TestAgreesWithThePlainText(t *testing.T) {
	try := func(i api.Ins, e api.Term) {
		f := fun([]int{3}, block(trap()), block(e, i))
		s, got := Print(f)
		if got != api.OK {
			return
		}
		if want := plainText(f); s != want {
			t.Fatalf("%v: %q, not %q", f, s, want)
		}
		parses(t, s, f)
	}
	few := []int{0, 1, 20}
	for o := api.OpConst; o <= api.OpCopy; o++ {
		for _, d := range few {
			for _, a := range few {
				for _, b := range few {
					for _, args := range [][]int{nil, {7}, {8, 7, 8}} {
						try(api.Ins{Op: o, Dst: d, A: a, B: b, Imm: d * a, Callee: 0, Args: args}, trap())
						try(api.Ins{Op: o, Dst: d, A: a, B: b, Imm: 0, Callee: d + b, Args: args}, ret(a))
					}
					try(api.Ins{Op: o, Dst: d, A: a, B: b, Imm: -1}, branch(max(a, 1), d, b))
				}
			}
		}
	}
}

// P4.2

func TestParseOfOtherwiseWrittenTexts(t *testing.T) {
	f := fun([]int{1, 20}, block(branch(1, 1, 0), let(2, -5), store(1, 0, 2)), block(ret(0), call(0, 7, 1)))
	for _, s := range []string{
		"fun v1 v20\nblock 0\nv2 ← const -5\nstore v1 0 v2\nv1 → 1 0\nblock 1\ncall 7 v1\nreturn",
		"\n \n;→ a remark ; Ä\n\t fun\t v1  v20;block\n\n\n  block 000\nv2←const-5\nstore v1 -0 v2 \nv1→01 00; v9\n\t\nblock 1\ncall 0007 v1\n;\nreturn\n\n;end",
		"fun v1 v20\nblock -0\nv2 ← const -0000000000000000000000000000000005\nstore v1 00000000000000000000000000000000 v2\nv1 → 1 -0\nblock 1\ncall 7 v1\nreturn\n\n\n",
	} {
		parses(t, s, f)
	}
}

// in is a block of that line.
func in(line string) string { return "fun\nblock 0\n" + line }

func TestParseOfWrongTexts(t *testing.T) {
	for _, x := range []struct {
		s         string
		line, col int
		e         api.Errno
	}{
		{"", 0, 0, api.ErrWord}, {"\n\n;fun", 0, 0, api.ErrWord}, {"fun", 0, 0, api.ErrWord}, {"fun\n", 0, 0, api.ErrWord}, {"fun v1", 0, 0, api.ErrWord}, {"\n block 0\ntrap", 2, 2, api.ErrWord}, {"5", 1, 1, api.ErrWord}, {"→", 1, 1, api.ErrWord}, {"funs\nblock 0\ntrap", 1, 1, api.ErrWord}, {"v1", 1, 1, api.ErrWord},
		{"fun 1\nblock 0\ntrap", 1, 5, api.ErrWord}, {"fun block 0\ntrap", 1, 5, api.ErrWord}, {"fun v1 →", 1, 8, api.ErrWord}, {"fun fun", 1, 5, api.ErrWord}, {"fun v0", 1, 5, api.ErrWord}, {"fun v201", 1, 5, api.ErrWord}, {"fun v01", 1, 5, api.ErrWord}, {"fun v", 1, 5, api.ErrWord}, {"fun v1v", 1, 5, api.ErrWord}, {"fun vv1", 1, 5, api.ErrWord}, {"fun v_1", 1, 5, api.ErrWord}, {"fun x1", 1, 5, api.ErrWord}, {"fun v1a", 1, 5, api.ErrWord},
		{"fun v200 v000000000001", 1, 10, api.ErrWord}, {"fun v999999999999999", 1, 5, api.ErrWord}, {"fun v9999999999999999", 1, 5, api.ErrLong},
		{"fun v1 v1", 1, 8, api.ErrWord}, {"fun v1 v2 v3 v2 x", 1, 14, api.ErrWord}, {"fun v1 v2 v3 v4 v5 v6 v7 v1 v8 v9", 1, 26, api.ErrWord},
		{"fun v1 v2 v3 v4 v5 v6 v7 v8 v9", 1, 29, api.ErrLong}, {"fun v1 v2 v3 v4 v5 v6 v7 v8 v1", 1, 29, api.ErrLong}, {"fun v1 v2 v3 v4 v5 v6 v7 v8 block", 1, 29, api.ErrLong}, {"fun v1 v2 v3 v4 v5 v6 v7 v8 5\nblock 0", 1, 29, api.ErrLong}, {"fun v1 v2 v3 v4 v5 v6 v7 v8 ;\nblok 0", 2, 1, api.ErrWord},
		{"fun\nfun", 2, 1, api.ErrWord}, {"fun\n0", 2, 1, api.ErrWord}, {"fun\ntrap", 2, 1, api.ErrWord}, {"fun\nblock", 0, 0, api.ErrWord}, {"fun\nblock\n0", 2, 6, api.ErrWord}, {"fun\nblock v1", 2, 7, api.ErrWord}, {"fun\nblock 1\ntrap", 2, 7, api.ErrLong}, {"fun\nblock -1", 2, 7, api.ErrLong}, {"fun\nblock 64", 2, 7, api.ErrLong}, {"fun\nblock 0 trap", 2, 9, api.ErrWord}, {"fun\nblock 0 0", 2, 9, api.ErrWord}, {"fun\nblock 0", 0, 0, api.ErrWord}, {"fun\nblock 0\n", 0, 0, api.ErrWord},
		{in("trap\nblock 0\ntrap"), 4, 7, api.ErrLong}, {in("trap\nblock 2"), 4, 7, api.ErrLong}, {in("trap\ntrap"), 4, 1, api.ErrWord}, {in("trap\nv1 ← v1"), 4, 1, api.ErrWord}, {in("trap\nfun"), 4, 1, api.ErrWord}, {in("trap\nblock 1"), 0, 0, api.ErrWord}, {in("trap\nblock 1\nblock 2\ntrap"), 5, 1, api.ErrWord}, {in("v1 ← v2\nblock 1\ntrap"), 4, 1, api.ErrWord}, {in("v1 ← v2"), 0, 0, api.ErrWord},
		{in("trap X"), 3, 6, api.ErrRune}, {in("X trap"), 3, 1, api.ErrRune}, {in("trap\n\xff"), 4, 1, api.ErrRune}, {"x\n1x", 2, 2, api.ErrRune}, {"x\n" + strings.Repeat("a", 17), 2, 1, api.ErrLong}, {"x 1099511627777", 1, 3, api.ErrLong},
	} {
		breaks(t, x.s, x.line, x.col, x.e)
	}
}

// lines that break, and the column of their first word that may not stand there; 0, if there is none any more.
func TestParseOfWrongLines(t *testing.T) {
	for _, x := range []struct {
		s   string
		col int
		e   api.Errno
	}{
		{"5", 1, api.ErrWord}, {"←", 1, api.ErrWord}, {"=", 1, api.ErrWord}, {"add v1 v2", 1, api.ErrWord}, {"const 1", 1, api.ErrWord}, {"load v1 1", 1, api.ErrWord}, {"copy v1", 1, api.ErrWord}, {"jump 1", 1, api.ErrWord}, {"traps", 1, api.ErrWord}, {"v0 ← v1", 1, api.ErrWord}, {"v201 ← v1", 1, api.ErrWord}, {"v01 → 1 1", 1, api.ErrWord}, {"block 1", 1, api.ErrWord}, {"fun", 1, api.ErrWord}, {"[", 1, api.ErrWord},
		{"v1", 0, api.ErrWord}, {"v1 v2", 4, api.ErrWord}, {"v1 = v2", 4, api.ErrWord}, {"v1 5", 4, api.ErrWord}, {"v1 add v2 v3", 4, api.ErrWord}, {"v1 ← ←", 6, api.ErrWord}, {"v1 ←", 0, api.ErrWord}, {"v1 ← 5", 6, api.ErrWord}, {"v1 ← →", 6, api.ErrWord}, {"v1 ← →  v2", 6, api.ErrWord}, {"v1 ← mod v2 v3", 6, api.ErrWord}, {"v1 ← store v2 1 v3", 6, api.ErrWord}, {"v1 ← return", 6, api.ErrWord}, {"v1 ← trap", 6, api.ErrWord}, {"v1 ← copy v2", 6, api.ErrWord}, {"v1 ← move v2", 6, api.ErrWord}, {"v1 ← v0", 6, api.ErrWord}, {"v1 ← v201", 6, api.ErrWord}, {"v1 ← v2 v3", 9, api.ErrWord}, {"v1 ← v2 ← v3", 9, api.ErrWord}, {"v1 ← v2 5", 9, api.ErrWord},
		{"v1 ← const", 0, api.ErrWord}, {"v1 ← const v2", 12, api.ErrWord}, {"v1 ← const 1099511627777", 12, api.ErrLong}, {"v1 ← const -1099511627777", 12, api.ErrLong}, {"v1 ← const 5 5", 14, api.ErrWord}, {"v1 ← const → 5", 12, api.ErrWord},
		{"v1 ← add", 0, api.ErrWord}, {"v1 ← add v2", 0, api.ErrWord}, {"v1 ← add 2 v2", 10, api.ErrWord}, {"v1 ← sub v2 2", 13, api.ErrWord}, {"v1 ← same v2 v3 v4", 17, api.ErrWord}, {"v1 ← mul v2, v3", 12, api.ErrWord}, {"v1 ← div v201 v1", 10, api.ErrWord}, {"v1 ← less v1 v02", 14, api.ErrWord}, {"v1 ← or v1 v201", 12, api.ErrWord}, {"v1 ← and v1 and", 13, api.ErrWord}, {"v1 ← xor add v1", 10, api.ErrWord},
		{"v1 ← load", 0, api.ErrWord}, {"v1 ← load v2", 0, api.ErrWord}, {"v1 ← load 1 v2", 11, api.ErrWord}, {"v1 ← load v2 v3", 14, api.ErrWord}, {"v1 ← load v2 1 v3", 16, api.ErrWord}, {"v1 ← load v2 1099511627777", 14, api.ErrLong}, {"v1 ← load v0 1", 11, api.ErrWord},
		{"store", 0, api.ErrWord}, {"store v1", 0, api.ErrWord}, {"store v1 1", 0, api.ErrWord}, {"store v1 v2 1", 10, api.ErrWord}, {"store 1 v1 v2", 7, api.ErrWord}, {"store v1 1 2", 12, api.ErrWord}, {"store v1 1 v201", 12, api.ErrWord}, {"store v1 1 v2 v3", 15, api.ErrWord}, {"store v1 -1099511627777 v2", 10, api.ErrLong}, {"store ← v1", 7, api.ErrWord},
		{"call", 0, api.ErrWord}, {"call v1", 6, api.ErrWord}, {"call 100", 6, api.ErrLong}, {"call -1 v1", 6, api.ErrLong}, {"call 1 2", 8, api.ErrWord}, {"call 1 v1 v0", 11, api.ErrWord}, {"call 1 v1 call", 11, api.ErrWord}, {"call 1 v1 v2 v3 v4 v5 v6 v7 v8 v9", 32, api.ErrLong}, {"call 1 v1 v1 v1 v1 v1 v1 v1 v1 5", 32, api.ErrLong}, {"call 1 v1 v1 v1 v1 v1 v1 v1 5 v1", 29, api.ErrWord},
		{"v1 ← call", 0, api.ErrWord}, {"v1 ← call v1", 11, api.ErrWord}, {"v1 ← call 100", 11, api.ErrLong}, {"v1 ← call 1 v1 v1 v1 v1 v1 v1 v1 v1 →", 37, api.ErrLong}, {"v1 ← call 1 v201", 13, api.ErrWord}, {"v1 ← call -1", 11, api.ErrLong},
		{"→", 0, api.ErrWord}, {"→ v1", 3, api.ErrWord}, {"→ 64", 3, api.ErrLong}, {"→ -1", 3, api.ErrLong}, {"→ 1 2", 5, api.ErrWord}, {"→ →", 3, api.ErrWord},
		{"v1 →", 0, api.ErrWord}, {"v1 → 1", 0, api.ErrWord}, {"v1 → 64 1", 6, api.ErrLong}, {"v1 → 1 64", 8, api.ErrLong}, {"v1 → -1 1", 6, api.ErrLong}, {"v1 → 1 -1", 8, api.ErrLong}, {"v1 → 1, 2", 7, api.ErrWord}, {"v1 → v2 v3", 6, api.ErrWord}, {"v1 → 1 v3", 8, api.ErrWord}, {"v1 → 1 2 3", 10, api.ErrWord},
		{"return 5", 8, api.ErrWord}, {"return v0", 8, api.ErrWord}, {"return v201", 8, api.ErrWord}, {"return v1 v2", 11, api.ErrWord}, {"return return", 8, api.ErrWord}, {"return →", 8, api.ErrWord}, {"trap trap", 6, api.ErrWord}, {"trap v1", 6, api.ErrWord}, {"trap 1", 6, api.ErrWord},
	} {
		line, end := 3, x.col
		if x.col == 0 {
			line = 0
		}
		breaks(t, in(x.s), line, end, x.e)
		if x.col == 0 {
			// With another line behind it, the end of the line may not stand there.
			line, end = 3, len([]rune(x.s))+1
		}
		breaks(t, in(x.s)+"\ntrap\n", line, end, x.e)
	}
}

func TestParseOfMoreThanMayBe(t *testing.T) {
	full := in(strings.Repeat("v1 ← v2\n", 64))
	parses(t, full+"trap", fun(nil, block(trap(), slices.Repeat([]api.Ins{copyOf(1, 2)}, 64)...)))
	for _, x := range []struct {
		s         string
		line, col int
		e         api.Errno
	}{
		{full, 0, 0, api.ErrWord}, {full + "block", 67, 1, api.ErrWord}, {full + "v1 ← v2\ntrap", 67, 8, api.ErrLong}, {full + "v1 ← v2", 0, 0, api.ErrLong}, {full + "v1 ← v2\n;\n", 0, 0, api.ErrLong}, {full + "v1 ← v2 v3\ntrap", 67, 9, api.ErrLong}, {full + "v1 ← add v2\ntrap", 67, 12, api.ErrWord}, {full + "store v1 1 v2 ;\n\ntrap", 67, 16, api.ErrLong}, {full + "call 1 v1 5\ntrap", 67, 11, api.ErrWord}, {full + "call 1 v1 v1 v1 v1 v1 v1 v1 v1\ntrap", 67, 31, api.ErrLong}, {full + "call 100", 67, 6, api.ErrLong},
		{full + "trap\nblock 1\n" + strings.Repeat("v1 ← v2\n", 65) + "trap", 133, 8, api.ErrLong}, {full + "v1 ← v2\nv1 ← v2\nv1 ←", 67, 8, api.ErrLong},
		{trapsText(64) + "block 64\ntrap", 130, 1, api.ErrLong}, {trapsText(64) + "\n x", 131, 2, api.ErrLong}, {trapsText(64) + "\n 5", 131, 2, api.ErrLong}, {trapsText(64) + "v1", 130, 1, api.ErrLong}, {trapsText(200), 130, 1, api.ErrLong}, {trapsText(63) + "block 64\ntrap", 128, 7, api.ErrLong}, {trapsText(64) + "X", 130, 1, api.ErrRune},
	} {
		breaks(t, x.s, x.line, x.col, x.e)
	}
}

func TestParseOfLongTexts(t *testing.T) {
	s := "fun\nblock 0\ntrap\n"
	for _, fill := range []string{" ", "\n", ";", "\t"} {
		longest := s + strings.Repeat(fill, api.MaxText-len(s))
		parses(t, longest, traps(1))
		breaks(t, longest+fill, 0, 0, api.ErrLong)
	}
	// Bytes are counted, not runes.
	longest := s + ";" + strings.Repeat("→", (api.MaxText-len(s)-1)/3)
	parses(t, longest, traps(1))
	breaks(t, longest+"→", 0, 0, api.ErrLong)
	// It is told ahead of all else.
	breaks(t, "\xff"+strings.Repeat("X", api.MaxText), 0, 0, api.ErrLong)
	breaks(t, "\xff"+strings.Repeat("X", api.MaxText-1), 1, 1, api.ErrRune)
	breaks(t, "fun"+strings.Repeat(" v1", 1<<16), 1, 8, api.ErrWord)
	breaks(t, in(strings.Repeat("v1 ← v1\n", 1<<14)), 67, 8, api.ErrLong)
	breaks(t, in(strings.Repeat("v1 ", 1<<16)), 3, 4, api.ErrWord)
}

func TestParseHandsOutNewMemory(t *testing.T) {
	const s = "fun v1 v2\nblock 0\nv1 ← call 0 v1 v2\ntrap\n"
	f, _, _, _ := Parse(s)
	f.Params[0], f.Blocks[0].Ins[0].Args[0], f.Blocks[0].Ins[0].Dst, f.Blocks[0].Term = 9, 9, 9, jump(9)
	parses(t, s, fun([]int{1, 2}, block(trap(), call(1, 0, 1, 2))))
}

// agrees holds a text's reading against the plain one.
func agrees(t *testing.T, s string) {
	t.Helper()
	f, line, col, e := Parse(s)
	g, wantLine, wantCol, want := plainParse(s)
	if line != wantLine || col != wantCol || e != want || !same(f, g) {
		t.Fatalf("%q is read %v, %d, %d, %d, not %v, %d, %d, %d", s, f, line, col, e, g, wantLine, wantCol, want)
	}
	if e != api.OK {
		return
	}
	again, e := Print(f)
	if e != api.OK {
		t.Fatalf("%q, as %v, is not written: %d", s, f, e)
	}
	if h, _, _, e := Parse(again); e != api.OK || !same(f, h) || again != plainText(f) {
		t.Fatalf("%q is written %q, and read %v, %d", s, again, h, e)
	}
}

// All short lines of some words, as they stand in a block.
func TestAgreesWithThePlainReadingOfLines(t *testing.T) {
	words := []string{"v1 ", "v20 ", "v0 ", "0 ", "64 ", "-1 ", "call ", "store ", "load ", "add ", "const ", "return ", "trap ", "→ ", "← ", "\n"}
	texts(words, 4, func(s string) { agrees(t, in(s+"\ntrap")) })
	texts(words[:8], 4, func(s string) { agrees(t, in("v3 ← "+s)) })
	texts([]string{"v1 ", "v2 ", "x ", "\n", "1099511627776 ", "-1099511627777 "}, 5, func(s string) { agrees(t, in("store v3 "+s+"\ntrap")) })
}

// All short rows of lines.
func TestAgreesWithThePlainReadingOfBlocks(t *testing.T) {
	texts([]string{"fun v1\n", "block 0\n", "block 1\n", "v1 ← v2\n", "trap\n", "return v1 ", "\n", "→ 1\n", "x"}, 5, func(s string) { agrees(t, s) })
	texts([]string{"v1 ", "v2 ", "v3 ", "v9 ", "v10 ", "v11 ", "v0 ", "\nblock 0\ntrap\n"}, 5, func(s string) { agrees(t, "fun v4 v5 v6 v7 "+s) })
	texts([]string{"v1 ", "v0 ", "\ntrap"}, 6, func(s string) { agrees(t, in("call 7 v4 v4 v4 v4 "+s)) })
}

// What is there, with one word left out, put in, or taken for another one.
func TestAgreesWithThePlainReadingOfChangedTexts(t *testing.T) {
	for n, x := range insLines {
		e := endLines[n%len(endLines)].t
		whole, _ := Print(fun([]int{3, 1}, block(e, x.i), block(e)))
		words := strings.SplitAfter(strings.ReplaceAll(whole, "\n", " \n "), " ")
		for n := range words {
			for _, w := range []string{"", "v1 ", "v201 ", "7 ", "-1 ", "100 ", "→ ", "← ", "\n ", "call ", "or ", "trap ", "block ", "; ", "X "} {
				agrees(t, strings.Join(words[:n], "")+w+strings.Join(words[n+1:], ""))
				agrees(t, strings.Join(words[:n], "")+w+strings.Join(words[n:], ""))
			}
		}
	}
}

func TestAgreesWithThePlainReadingAtTheLimits(t *testing.T) {
	ends := []string{"trap\n", "v1 ← v2\n", "v1 ← v2 v3\n", "store v1 1 v2 ", "call 1 v1\n", "call 1 →", "v1 ← ", "block 1\n", "block 64\n", "x", "5", "return"}
	for many := 62; many < 66; many++ {
		texts(ends, 2, func(s string) { agrees(t, in(strings.Repeat("v1 ← v2\n", many)+s)) })
		texts(ends, 2, func(s string) { agrees(t, trapsText(many)+s) })
	}
}

// P4.3

func TestWhatIsWrittenIsReadTheSame(t *testing.T) {
	for n := range 200 {
		f := some(n)
		s, e := Print(f)
		if e != api.OK || s != plainText(f) {
			t.Fatalf("%v is written %q, %d", f, s, e)
		}
		parses(t, s, f)
	}
}

// some is the function of a number: unlike ones of unlike numbers, all of which can be written.
func some(n int) (f api.Func) {
	next := func(below int) int {
		n = (n*1103515245 + 12345) & (1<<31 - 1)
		return n >> 8 % below
	}
	v := func() int { return 1 + next(api.MaxVars) }
	for range next(9) {
		if p := v(); !slices.Contains(f.Params, p) {
			f.Params = append(f.Params, p)
		}
	}
	for range 1 + next(64) {
		var b api.Block
		for range next(65) {
			i := insLines[next(len(insLines))].i
			b.Ins = append(b.Ins, i)
		}
		b.Term = endLines[next(len(endLines))].t
		f.Blocks = append(f.Blocks, b)
	}
	return f
}
