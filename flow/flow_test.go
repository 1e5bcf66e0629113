package flow

import (
	"math"
	"reflect"
	"slices"
	"testing"

	"intarsia/api"
)

func jump(to int) api.Term     { return api.Term{Kind: api.TermJump, To: [2]int{to}} }
func branch(x, y int) api.Term { return api.Term{Kind: api.TermBranch, A: 1, To: [2]int{x, y}} }
func ret() api.Term            { return api.Term{Kind: api.TermReturn} }
func trap() api.Term           { return api.Term{Kind: api.TermTrap} }

func edge(from, arm, to int) api.Edge { return api.Edge{From: from, Arm: arm, To: to} }

// fun is a function of blocks that have nothing but these ends.
func fun(l ...api.Term) (f api.Func) {
	for _, t := range l {
		f.Blocks = append(f.Blocks, api.Block{Term: t})
	}
	return f
}

// row is a function of that many blocks, each of which goes to the next one.
func row(many int) api.Func {
	var l []api.Term
	for b := 1; b < many; b++ {
		l = append(l, jump(b))
	}
	return fun(append(l, ret())...)
}

// wrong are ends that are not right, so there are no edges of theirs.
func wrong() []api.Term {
	return []api.Term{
		{}, {Kind: 5, A: 1, To: [2]int{1, 1}}, {Kind: -1, To: [2]int{1, 1}}, {Kind: api.TermJump, A: 1, To: [2]int{1}}, {Kind: api.TermJump, To: [2]int{1, 1}}, {Kind: api.TermJump, To: [2]int{-1, 9}},
		{Kind: api.TermBranch, To: [2]int{1, 1}}, {Kind: api.TermBranch, A: 201, To: [2]int{1, 1}}, {Kind: api.TermBranch, A: -1, To: [2]int{900, -900}},
		{Kind: api.TermReturn, A: 1, To: [2]int{1}}, {Kind: api.TermReturn, To: [2]int{0, 99}}, {Kind: api.TermTrap, A: 1, To: [2]int{-1}}, {Kind: api.TermTrap, To: [2]int{1, 1}},
	}
}

// some are functions of many blocks, of no rule: with returns seldom, or often.
func some(do func(f api.Func)) {
	seed := uint32(7)
	next := func(below int) int {
		seed = seed*1664525 + 1013904223
		return int(seed>>8) % below
	}
	for n := range 4000 {
		many := 1 + next(12)
		if n%100 == 0 {
			many = 1 + next(api.MaxAll)
		}
		var l []api.Term
		for range many {
			all := []api.Term{ret(), jump(next(many)), branch(next(many), next(many)), branch(next(many), next(many)), trap()}
			l = append(l, all[next(3+n%3)])
		}
		if n%50 == 0 {
			l[next(many)] = branch(next(many), many)
		}
		do(fun(l...))
	}
}

// small are all functions of three blocks, of one of each kind of end, to all blocks, and to some that are not there.
func small(do func(f api.Func)) {
	ends := []api.Term{{}, ret(), trap(), wrong()[3], jump(-1), jump(3), branch(1, 3), branch(-1, 0)}
	for x := range 3 {
		ends = append(ends, jump(x), branch(x, 0), branch(x, 1), branch(x, 2))
	}
	for _, a := range ends {
		for _, b := range ends {
			for _, c := range ends {
				do(fun(a, b, c))
			}
		}
	}
}

// upTo are so many numbers, from 0 on.
func upTo(many int) (l []int) {
	for n := range many {
		l = append(l, n)
	}
	return l
}

// parts are all rows of some of three blocks.
func parts() (l [][]int) {
	for n := range 8 {
		var p []int
		for b := range 3 {
			if n>>b&1 == 1 {
				p = append(p, b)
			}
		}
		l = append(l, p)
	}
	return l
}

// nowhere are numbers of blocks that no function has.
func nowhere() []int {
	return []int{-1, -64, -200, 200, 201, 256, 1023, 1024, 1 << 32, math.MaxInt, math.MinInt}
}

// toldEdges fails unless all that is told of a function's edges, beginning with whether it is closed, is what the plain reading says.
func toldEdges(t *testing.T, f api.Func) {
	t.Helper()
	if Closed(f) != plainClosed(f) {
		t.Fatalf("%v: closed %v", f, Closed(f))
	}
	if !slices.Equal(Edges(f), plainEdges(f)) || !slices.Equal(Critical(f), plainCritical(f)) {
		t.Fatalf("%v: edges %v, critical %v", f, Edges(f), Critical(f))
	}
	for _, b := range append(nowhere(), upTo(len(f.Blocks)+1)...) {
		if !slices.Equal(Into(f, b), plainInto(f, b)) || !slices.Equal(From(f, b), plainFrom(f, b)) {
			t.Fatalf("%v: into %d %v, from it %v", f, b, Into(f, b), From(f, b))
		}
	}
}

// nothing fails unless a function is not closed, and nothing is told of it.
func nothing(t *testing.T, f api.Func) {
	t.Helper()
	if Closed(f) || Edges(f) != nil || Critical(f) != nil || Order(f) != nil {
		t.Errorf("%v: %v, %v, %v, %v", f, Closed(f), Edges(f), Critical(f), Order(f))
	}
	for b := -1; b < min(len(f.Blocks)+1, 300); b++ {
		if Into(f, b) != nil || From(f, b) != nil || Reached(f, []int{0, b}) != nil || Reached(f, []int{b}, b+1) != nil {
			t.Errorf("%v: something is told of %d", f, b)
		}
	}
}

func TestExample(t *testing.T) {
	f := fun(branch(1, 2), jump(2), ret())
	if l := Order(f); !slices.Equal(l, []int{0, 1, 2}) {
		t.Error(l)
	}
	if l := Critical(f); !slices.Equal(l, []api.Edge{edge(0, 1, 2)}) {
		t.Error(l)
	}
}

// P10.1

func TestClosed(t *testing.T) {
	all := func(many int, e api.Term) api.Func { return fun(slices.Repeat([]api.Term{e}, many)...) }
	for n, x := range []struct {
		f    api.Func
		want bool
	}{
		{fun(ret()), true}, {fun(trap()), true}, {fun(jump(0)), true}, {fun(branch(0, 0)), true}, {fun(branch(1, 0), jump(0)), true},
		{row(api.MaxAll), true}, {all(api.MaxAll, branch(0, api.MaxAll-1)), true}, {all(api.MaxAll, jump(api.MaxAll-1)), true}, {all(api.MaxAll, api.Term{}), true},
		{api.Func{}, false}, {api.Func{Params: []int{1}, Blocks: []api.Block{}}, false}, {row(api.MaxAll + 1), false}, {all(api.MaxAll+1, ret()), false}, {all(1<<20, jump(0)), false},
		{fun(jump(1)), false}, {fun(jump(-1)), false}, {fun(branch(0, 1)), false}, {fun(branch(1, 0)), false}, {fun(branch(-1, 0)), false}, {fun(branch(0, -1)), false},
		{fun(jump(math.MaxInt)), false}, {fun(jump(math.MinInt)), false}, {fun(branch(0, math.MinInt)), false}, {fun(jump(64)), false}, {all(api.MaxAll, jump(api.MaxAll)), false},
		// Of blocks that are not reached, too.
		{fun(ret(), jump(2)), false}, {fun(ret(), branch(0, 2)), false}, {fun(ret(), jump(0)), true}, {fun(ret(), jump(1)), true},
	} {
		if Closed(x.f) != x.want {
			t.Errorf("%d: %v", n, !x.want)
		}
		if !x.want {
			nothing(t, x.f)
		}
	}
}

func TestEndsThatAreNotRightHaveNoEdges(t *testing.T) {
	for _, e := range wrong() {
		f := fun(jump(1), e)
		if !Closed(f) || !slices.Equal(Edges(f), []api.Edge{edge(0, 0, 1)}) || From(f, 1) != nil || !slices.Equal(Order(f), []int{0, 1}) || !slices.Equal(Reached(f, []int{1}), []int{1}) {
			t.Errorf("%v: %v, %v", e, Edges(f), Order(f))
		}
		toldEdges(t, f)
	}
}

func TestWhatIsNoEdgeDoesNotCount(t *testing.T) {
	f := fun(branch(1, 2), jump(2), ret())
	g := fun(branch(1, 2), jump(2), ret())
	g.Params = []int{0, 0, -7}
	for b := range g.Blocks {
		g.Blocks[b].Ins = make([]api.Ins, 100)
	}
	if !slices.Equal(Edges(f), Edges(g)) || !slices.Equal(Order(f), Order(g)) || !slices.Equal(Critical(f), Critical(g)) || !slices.Equal(Reached(g, []int{1}), []int{1, 2}) {
		t.Error(Edges(g), Order(g), Critical(g))
	}
}

func TestEdges(t *testing.T) {
	f := fun(jump(2), branch(2, 3), branch(4, 4), trap(), branch(1, 3), jump(0))
	all := []api.Edge{edge(0, 0, 2), edge(1, 0, 2), edge(1, 1, 3), edge(2, 0, 4), edge(2, 1, 4), edge(4, 0, 1), edge(4, 1, 3), edge(5, 0, 0)}
	if l := Edges(f); !slices.Equal(l, all) {
		t.Error(l)
	}
	for b, x := range []struct{ into, from []api.Edge }{
		{all[7:], all[:1]}, {all[5:6], all[1:3]}, {all[:2], all[3:5]}, {[]api.Edge{all[2], all[6]}, nil}, {all[3:5], all[5:7]}, {nil, all[7:]}, {nil, nil},
	} {
		if into, from := Into(f, b), From(f, b); !slices.Equal(into, x.into) || !slices.Equal(from, x.from) {
			t.Error(b, into, from)
		}
	}
	for _, b := range nowhere() {
		if Into(f, b) != nil || From(f, b) != nil {
			t.Error(b, Into(f, b), From(f, b))
		}
	}
}

func TestCritical(t *testing.T) {
	for n, x := range []struct {
		f    api.Func
		want []api.Edge
	}{
		{fun(ret()), nil}, {fun(jump(0)), nil}, {row(api.MaxAll), nil}, {fun(branch(1, 2), ret(), ret()), nil}, {fun(branch(1, 2), jump(3), jump(3), ret()), nil},
		// Both arms go to one block: that has two edges in.
		{fun(branch(1, 1), ret()), []api.Edge{edge(0, 0, 1), edge(0, 1, 1)}}, {fun(branch(0, 0)), []api.Edge{edge(0, 0, 0), edge(0, 1, 0)}},
		// An edge from a block to itself, an edge from one that is not reached: these count, too.
		{fun(jump(1), branch(1, 2), ret()), []api.Edge{edge(1, 0, 1)}}, {fun(branch(1, 0), ret()), nil}, {fun(branch(1, 2), ret(), ret(), jump(2)), []api.Edge{edge(0, 1, 2)}}, {fun(ret(), branch(2, 3), jump(3), ret()), []api.Edge{edge(1, 1, 3)}},
		// Block 0 has no edge in for being the first one.
		{fun(jump(1), branch(0, 2), ret()), nil}, {fun(jump(1), branch(0, 2), jump(0)), []api.Edge{edge(1, 0, 0)}},
	} {
		if l := Critical(x.f); !slices.Equal(l, x.want) {
			t.Errorf("%d: %v", n, l)
		}
	}
}

func TestEdgesOfTheMostBlocks(t *testing.T) {
	const last = api.MaxAll - 1
	f := fun(slices.Repeat([]api.Term{branch(last, 0)}, api.MaxAll)...)
	if len(Edges(f)) != 2*api.MaxAll || len(Critical(f)) != 2*api.MaxAll || len(Into(f, last)) != api.MaxAll || len(Into(f, 0)) != api.MaxAll || !slices.Equal(From(f, last), []api.Edge{edge(last, 0, last), edge(last, 1, 0)}) {
		t.Error(len(Edges(f)), len(Critical(f)), len(Into(f, last)), len(Into(f, 0)), From(f, last))
	}
	toldEdges(t, f)
}

func TestEdgesAgreeWithThePlainReading(t *testing.T) {
	small(func(f api.Func) { toldEdges(t, f) })
	some(func(f api.Func) { toldEdges(t, f) })
}

// P10.2

func TestOrder(t *testing.T) {
	for n, x := range []struct {
		f    api.Func
		want []int
	}{
		{fun(ret()), []int{0}}, {fun(jump(0)), []int{0}}, {fun(branch(0, 0), jump(0)), []int{0}}, {fun(ret(), jump(0)), []int{0}}, {row(api.MaxAll), upTo(api.MaxAll)},
		// What the first arm goes through stands behind what the second one goes through.
		{fun(branch(1, 2), ret(), ret()), []int{0, 2, 1}}, {fun(branch(2, 1), ret(), ret()), []int{0, 1, 2}}, {fun(branch(1, 1), ret()), []int{0, 1}},
		{fun(branch(1, 2), jump(3), jump(3), ret()), []int{0, 2, 1, 3}}, {fun(branch(2, 1), jump(3), jump(3), ret()), []int{0, 1, 2, 3}}, {fun(branch(1, 2), ret(), jump(1)), []int{0, 2, 1}},
		{fun(jump(1), branch(2, 3), jump(1), ret()), []int{0, 1, 3, 2}}, {fun(jump(1), branch(3, 2), jump(1), ret()), []int{0, 1, 2, 3}}, {fun(branch(1, 2), jump(2), jump(1)), []int{0, 1, 2}}, {fun(branch(2, 1), jump(2), jump(1)), []int{0, 2, 1}},
		{fun(jump(2), branch(2, 3), branch(4, 4), trap(), branch(1, 3), jump(0)), []int{0, 2, 4, 1, 3}}, {fun(jump(3), jump(4), jump(1), jump(2), ret()), []int{0, 3, 2, 1, 4}},
	} {
		if l := Order(x.f); !slices.Equal(l, x.want) {
			t.Errorf("%d: %v", n, l)
		}
	}
}

func TestReached(t *testing.T) {
	f := fun(jump(2), branch(2, 3), branch(4, 4), trap(), branch(1, 3), jump(0))
	for n, x := range []struct{ from, not, want []int }{
		{nil, nil, nil}, {[]int{0}, nil, []int{0, 1, 2, 3, 4}}, {[]int{5}, nil, upTo(6)}, {[]int{3}, nil, []int{3}}, {[]int{3, 0, 3, 5, 0}, nil, upTo(6)}, {[]int{5, 3}, []int{0}, []int{3, 5}},
		// What may not be reached is so neither by being one of those from which it begins.
		{[]int{4}, []int{1}, []int{3, 4}}, {[]int{4, 2}, []int{4}, []int{2}}, {[]int{0}, []int{0}, nil}, {[]int{0, 3}, []int{0, 0}, []int{3}}, {upTo(6), upTo(6), nil}, {nil, []int{1}, nil}, {upTo(6), []int{2}, []int{0, 1, 3, 4, 5}},
		// Blocks that there are not.
		{[]int{6}, nil, nil}, {[]int{-1, 199, 200, 1023}, nil, nil}, {nowhere(), nil, nil}, {append(nowhere(), 1), append(nowhere(), 4), []int{1, 2, 3}}, {append(nowhere(), 0), nowhere(), []int{0, 1, 2, 3, 4}},
	} {
		if l := Reached(f, x.from, x.not...); !slices.Equal(l, x.want) {
			t.Errorf("%d: %v", n, l)
		}
	}
}

func TestReachedOfTheMostBlocks(t *testing.T) {
	f := row(api.MaxAll)
	for b := range api.MaxAll {
		if l := Reached(f, []int{b}); !slices.Equal(l, upTo(api.MaxAll)[b:]) {
			t.Fatal(b, l)
		}
		if l := Reached(f, []int{0}, b); !slices.Equal(l, upTo(b)) {
			t.Fatal(b, l)
		}
	}
	long := make([]int, 1<<20)
	for i := range long {
		long[i] = i - 1<<19
	}
	if l := Reached(f, long); !slices.Equal(l, upTo(api.MaxAll)) {
		t.Error(l)
	}
	if l := Reached(f, upTo(api.MaxAll), long...); l != nil {
		t.Error(l)
	}
}

func TestOrderAgreesWithThePlainReading(t *testing.T) {
	order := func(f api.Func) {
		if !slices.Equal(Order(f), plainOrder(f)) {
			t.Fatalf("%v: %v, not %v", f, Order(f), plainOrder(f))
		}
	}
	small(order)
	some(order)
}

func TestReachedAgreesWithThePlainReading(t *testing.T) {
	reached := func(f api.Func, from, not []int) {
		if l := Reached(f, from, not...); !slices.Equal(l, plainReached(f, from, not)) {
			t.Fatalf("%v, from %v, not %v: %v", f, from, not, l)
		}
	}
	small(func(f api.Func) {
		for _, from := range parts() {
			for _, not := range parts() {
				reached(f, from, not)
			}
		}
	})
	some(func(f api.Func) {
		many := len(f.Blocks)
		for b := range min(many, 12) {
			reached(f, []int{b}, nil)
			reached(f, []int{b, many - 1, -b, many + b}, []int{many / 2, 1000})
			reached(f, []int{many / 2, b, b}, []int{b / 2, b + 3, many})
		}
	})
}

// P10.3

func TestWhatOrderTells(t *testing.T) {
	what := func(f api.Func) {
		l := Order(f)
		if !Closed(f) {
			return
		}
		at := map[int]int{}
		for n, b := range l {
			at[b] = n
		}
		sorted := slices.Sorted(slices.Values(l))
		if l[0] != 0 || len(at) != len(l) || !slices.Equal(sorted, Reached(f, []int{0})) {
			t.Fatalf("%v: %v", f, l)
		}
		for _, e := range Edges(f) {
			first, reached := at[e.From]
			if reached && at[e.To] <= first && !slices.Contains(Reached(f, []int{e.To}), e.From) {
				t.Fatalf("%v: %v, by %v", f, l, e)
			}
		}
	}
	small(what)
	some(what)
}

// R3, R4, R6

func tell(f api.Func, from, not []int) []any {
	l := []any{Closed(f), Edges(f), Critical(f), Order(f), Reached(f, from, not...)}
	for b := -1; b <= len(f.Blocks); b++ {
		l = append(l, Into(f, b), From(f, b), Reached(f, []int{b}, not...))
	}
	return l
}

func deep(f api.Func) api.Func {
	g := api.Func{Params: slices.Clone(f.Params), Blocks: slices.Clone(f.Blocks)}
	for b := range g.Blocks {
		g.Blocks[b].Ins = slices.Clone(g.Blocks[b].Ins)
	}
	return g
}

func TestNothingIsChangedAndAllToldAlike(t *testing.T) {
	some(func(f api.Func) {
		if len(f.Blocks) > 12 {
			return
		}
		was := deep(f)
		from, not := []int{3, 0, 0, -1, 500}, []int{2, 1, 2, -1, 400}
		one, other := tell(f, from, not), tell(f, from, not)
		if !reflect.DeepEqual(one, other) {
			t.Fatalf("%v, then %v", one, other)
		}
		if !reflect.DeepEqual(deep(f), was) || !slices.Equal(from, []int{3, 0, 0, -1, 500}) || !slices.Equal(not, []int{2, 1, 2, -1, 400}) {
			t.Fatalf("%v, %v, %v was %v", f, from, not, was)
		}
		for _, x := range one {
			switch l := x.(type) {
			case []int:
				for i := range l {
					l[i] = -9
				}
			case []api.Edge:
				for i := range l {
					l[i] = edge(-9, -9, -9)
				}
			}
		}
		if !reflect.DeepEqual(other, tell(f, from, not)) || !reflect.DeepEqual(deep(f), was) {
			t.Fatalf("%v: what was told is kept", f)
		}
	})
}

func TestWhatIsHandedInIsNotKept(t *testing.T) {
	f := fun(branch(1, 2), jump(3), jump(3), ret())
	from, not := []int{0, 1}, []int{2}
	edges, order, reached := Edges(f), Order(f), Reached(f, from, not...)
	from[0], from[1], not[0] = 3, 3, 3
	for b := range f.Blocks {
		f.Blocks[b].Term = ret()
	}
	if len(edges) != 4 || !slices.Equal(order, []int{0, 2, 1, 3}) || !slices.Equal(reached, []int{0, 1, 3}) || Edges(f) != nil || !slices.Equal(Order(f), []int{0}) {
		t.Error(edges, order, reached, Edges(f), Order(f))
	}
}

func TestEmptyAndNilListsAreOne(t *testing.T) {
	f := fun(jump(1), ret())
	g := api.Func{Params: []int{}, Blocks: f.Blocks}
	if !reflect.DeepEqual(tell(f, nil, nil), tell(g, []int{}, []int{})) || !slices.Equal(Reached(f, []int{0}), Reached(f, []int{0}, []int{}...)) {
		t.Error(tell(g, []int{}, []int{}))
	}
}
