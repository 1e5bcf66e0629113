package mach

import (
	"math"
	"reflect"
	"slices"
	"strconv"
	"strings"
	"testing"

	"intarsia/api"
)

func machine(regs int, args []int, ret int, saved []int) api.Machine {
	return api.Machine{Regs: regs, Args: args, Ret: ret, Saved: saved}
}

// from are the registers from one on, below another one.
func from(n, below int) []int { return upTo(below)[n:] }

func same(m, n api.Machine) bool {
	return m.Regs == n.Regs && slices.Equal(m.Args, n.Args) && m.Ret == n.Ret && slices.Equal(m.Saved, n.Saved)
}

func copyOf(m api.Machine) api.Machine {
	m.Args, m.Saved = slices.Clone(m.Args), slices.Clone(m.Saved)
	return m
}

// rightOnes are machines, each with its text, the lost registers, and the saved ones' facts.
var rightOnes = []struct {
	m     api.Machine
	s     string
	lost  []int
	keeps []api.Fact
}{
	{machine(4, []int{0, 1}, 0, []int{2, 3}), "machine 4 args 0 1 ret 0 saved 2 3\n", []int{0, 1}, []api.Fact{{Var: -3, At: api.Loc{N: 2}}, {Var: -4, At: api.Loc{N: 3}}}},
	{machine(1, nil, 0, nil), "machine 1 args ret 0 saved\n", []int{0}, nil},
	{machine(1, []int{}, 0, []int{}), "machine 1 args ret 0 saved\n", []int{0}, nil},
	{machine(1, []int{0}, 0, nil), "machine 1 args 0 ret 0 saved\n", []int{0}, nil},
	{machine(2, []int{1, 0}, 1, []int{0}), "machine 2 args 1 0 ret 1 saved 0\n", []int{1}, []api.Fact{{Var: -1}}},
	{machine(3, []int{2}, 1, []int{0, 2}), "machine 3 args 2 ret 1 saved 0 2\n", []int{1}, []api.Fact{{Var: -1}, {Var: -3, At: api.Loc{N: 2}}}},
	{machine(9, upTo(8), 8, nil), "machine 9 args 0 1 2 3 4 5 6 7 ret 8 saved\n", upTo(9), nil},
	{machine(64, []int{63, 7}, 62, []int{9, 10, 63}), "machine 64 args 63 7 ret 62 saved 9 10 63\n", append(upTo(9), from(11, 63)...), []api.Fact{{Var: -10, At: api.Loc{N: 9}}, {Var: -11, At: api.Loc{N: 10}}, {Var: -64, At: api.Loc{N: 63}}}},
	{machine(64, nil, 63, nil), "machine 64 args ret 63 saved\n", upTo(64), nil},
}

func wrongOnes() []api.Machine {
	return []api.Machine{
		{}, {Regs: -1}, {Regs: 65}, {Regs: math.MaxInt}, {Regs: math.MinInt}, machine(0, nil, 0, []int{0}), machine(65, []int{64}, 0, []int{1}),
		machine(2, nil, 2, nil), machine(2, nil, -1, nil), machine(64, nil, 64, nil), machine(2, nil, math.MaxInt, nil), machine(2, nil, math.MinInt, nil),
		machine(2, []int{0, 0}, 0, nil), machine(4, []int{3, 1, 2, 3}, 0, nil), machine(2, []int{2}, 0, nil), machine(2, []int{-1}, 0, nil), machine(2, []int{0, math.MinInt}, 0, nil), machine(2, []int{math.MaxInt}, 0, nil), machine(64, []int{64}, 0, nil),
		machine(9, upTo(9), 0, nil), machine(64, upTo(9), 0, nil), machine(9, append(upTo(8), 0), 0, nil), machine(2, make([]int, 1<<20), 0, nil),
		machine(4, nil, 0, []int{2, 1}), machine(4, nil, 0, []int{1, 1}), machine(4, nil, 0, []int{1, 3, 2}), machine(4, nil, 0, []int{1, 2, 2}), machine(4, nil, 0, []int{4}), machine(4, nil, 0, []int{-1}), machine(4, nil, 0, []int{math.MinInt, 1}), machine(4, nil, 0, []int{1, math.MaxInt}), machine(64, nil, 0, []int{63, 64}),
		machine(4, nil, 1, []int{1}), machine(4, nil, 0, []int{0, 1, 2}), machine(4, nil, 3, []int{1, 3}), machine(1, nil, 0, []int{0}), machine(4, nil, 0, upTo(4)), machine(4, nil, 0, from(1, 5)), machine(4, nil, 0, upTo(5)), machine(64, nil, 63, upTo(64)), machine(64, nil, 63, upTo(65)), machine(64, nil, 0, make([]int, 1<<20)),
	}
}

// P5.1

func TestRightMachines(t *testing.T) {
	for _, x := range rightOnes {
		if !Right(x.m) || !slices.Equal(Lost(x.m), x.lost) || !slices.Equal(Keeps(x.m), x.keeps) {
			t.Errorf("%v: right %v, lost %v, keeps %v", x.m, Right(x.m), Lost(x.m), Keeps(x.m))
		}
	}
}

func TestWrongMachines(t *testing.T) {
	for n, m := range wrongOnes() {
		if Right(m) || Lost(m) != nil || Keeps(m) != nil || Enough(m, 0, 0) || Enough(m, -1, -1) || Enough(m, math.MinInt, math.MinInt) {
			t.Errorf("%d: right %v, lost %v, keeps %v", n, Right(m), Lost(m), Keeps(m))
		}
	}
}

// Each number of registers, with as many arguments and saved ones as may be, and one more.
func TestEachNumberOfRegisters(t *testing.T) {
	for regs := -1; regs <= 66; regs++ {
		want := 1 <= regs && regs <= 64
		if Right(machine(regs, nil, 0, nil)) != want || want && (!Right(machine(regs, nil, regs-1, upTo(regs-1))) || Right(machine(regs, nil, regs-1, upTo(regs))) || Right(machine(regs, nil, regs, nil))) {
			t.Error(regs)
		}
		for many := 0; many <= 66; many++ {
			if Right(machine(regs, upTo(many), 0, nil)) != (want && many <= 8 && many <= regs) {
				t.Error(regs, many)
			}
			if Right(machine(regs, nil, 0, from(1, 1+many))) != (want && many < regs) {
				t.Error(regs, many)
			}
		}
	}
}

func TestIsSaved(t *testing.T) {
	m := machine(64, []int{5, 6}, 7, []int{0, 5, 62, 63})
	for reg := -70; reg <= 130; reg++ {
		if want := reg == 0 || reg == 5 || reg == 62 || reg == 63; IsSaved(m, reg) != want {
			t.Errorf("%d: %v", reg, !want)
		}
	}
	for _, reg := range []int{-1, 4, 5, 64, math.MinInt, math.MaxInt} {
		if IsSaved(machine(4, nil, 0, []int{1, 2, 3}), reg) {
			t.Error(reg)
		}
	}
	if m := machine(3, nil, 0, nil); IsSaved(m, 0) || IsSaved(m, 2) || IsSaved(api.Machine{}, 0) {
		t.Error("nothing is saved")
	}
}

// Whether it is one of Saved is all that counts, of whatever machine: not whether it is a register of it, nor what else is wrong.
func TestIsSavedOfWrongMachines(t *testing.T) {
	for _, x := range []struct {
		m    api.Machine
		reg  int
		want bool
	}{
		{machine(0, []int{}, 0, []int{7}), 7, true}, {machine(0, []int{}, 0, []int{7}), 6, false}, {machine(0, []int{}, 0, []int{7}), 0, false},
		{machine(4, nil, 0, []int{2, 4}), 4, true}, {machine(4, nil, 0, []int{2, 4}), 2, true}, {machine(4, nil, 0, []int{2, 4}), 3, false}, {machine(4, nil, 0, []int{2, 4}), 5, false},
		{machine(0, nil, 0, []int{0}), 0, true}, {machine(0, nil, 0, nil), 0, false}, {machine(-1, nil, 0, []int{-1}), -1, true}, {machine(4, nil, 0, []int{-1, 3}), -1, true}, {machine(4, nil, 0, []int{-1, 3}), 3, true},
		{machine(65, nil, 0, []int{1}), 1, true}, {machine(65, nil, 0, []int{64}), 64, true}, {machine(100, nil, 0, []int{80}), 80, true}, {machine(100, nil, 0, []int{80}), 79, false}, {machine(math.MinInt, nil, 0, []int{5}), 5, true},
		{machine(4, nil, 1, []int{1}), 1, true}, {machine(4, nil, 9, []int{1}), 1, true}, {machine(4, []int{2, 2}, 0, []int{1}), 1, true}, {machine(4, []int{7}, 0, []int{1}), 7, false}, {machine(4, upTo(9), 0, []int{1}), 1, true},
		{machine(4, nil, 0, []int{2, 1}), 1, true}, {machine(4, nil, 0, []int{1, 1}), 1, true}, {machine(2, nil, 0, upTo(70)), 69, true}, {machine(2, nil, 0, upTo(70)), 70, false},
	} {
		if IsSaved(x.m, x.reg) != x.want {
			t.Errorf("%v, %d: %v", x.m, x.reg, !x.want)
		}
	}
	m := machine(3, nil, 0, []int{2, 0, -1, 3, 70, math.MinInt, math.MaxInt})
	for _, reg := range m.Saved {
		if !IsSaved(m, reg) {
			t.Error(reg)
		}
	}
	for _, reg := range []int{-70, -2, 1, 4, 69, 71, math.MinInt + 1, math.MaxInt - 1} {
		if IsSaved(m, reg) {
			t.Error(reg)
		}
	}
}

// Of all machines that are wrong in some other way, as of right ones, it is told alike.
func TestIsSavedAgreesWithThePlainOne(t *testing.T) {
	small(func(m api.Machine) {
		for reg := -2; reg <= 4; reg++ {
			if IsSaved(m, reg) != plainSaved(m, reg) {
				t.Fatalf("%v, %d: %v", m, reg, IsSaved(m, reg))
			}
		}
	})
	for n, m := range wrongOnes() {
		for _, reg := range []int{math.MinInt, -1, 0, 1, 2, 3, 4, 63, 64, 65, math.MaxInt} {
			if IsSaved(m, reg) != plainSaved(m, reg) {
				t.Fatalf("%d, %d: %v", n, reg, IsSaved(m, reg))
			}
		}
	}
}

func TestEnough(t *testing.T) {
	far := []int{math.MinInt, -1 << 40, -2, -1, 0, 1, 2, 3, 4, 8, 9, 62, 63, 64, 65, 1 << 40, math.MaxInt - 1, math.MaxInt}
	for _, x := range rightOnes {
		for _, operands := range far {
			for _, args := range far {
				want := operands <= x.m.Regs-1 && args <= len(x.m.Args)
				if Enough(x.m, operands, args) != want {
					t.Errorf("%v, %d, %d: %v", x.m, operands, args, !want)
				}
			}
		}
	}
	m := machine(3, []int{2, 0}, 1, nil)
	for _, x := range []struct {
		operands, args int
		want           bool
	}{
		{2, 2, true}, {3, 2, false}, {2, 3, false}, {0, 0, true}, {-1, -1, true}, {-5, 3, false}, {3, -5, false}, {math.MinInt, math.MinInt, true},
		{math.MaxInt, 0, false}, {0, math.MaxInt, false}, {math.MaxInt, math.MinInt, false},
	} {
		if Enough(m, x.operands, x.args) != x.want {
			t.Error(x)
		}
	}
}

// small tells do all machines of few registers, and some of too many.
func small(do func(m api.Machine)) {
	lists := rows([]int{-1, 0, 1, 2, 3}, 3)
	for _, regs := range []int{-1, 0, 1, 2, 3, 64, 65} {
		for _, args := range lists {
			for ret := -1; ret <= 3; ret++ {
				for _, saved := range lists {
					do(machine(regs, args, ret, saved))
				}
			}
		}
	}
}

func TestAgreesWithThePlainMachine(t *testing.T) {
	small(func(m api.Machine) {
		want := plainRight(m)
		if Right(m) != want || !slices.Equal(Lost(m), plainLost(m)) || !slices.Equal(Keeps(m), plainKeeps(m)) || Enough(m, 0, 0) != want || Enough(m, 2, 1) != (want && m.Regs >= 3 && len(m.Args) > 0) {
			t.Fatalf("%v: right %v, lost %v, keeps %v", m, Right(m), Lost(m), Keeps(m))
		}
	})
}

// All rows of two registers anywhere, in each list.
func TestPairsOfRegisters(t *testing.T) {
	for a := -1; a <= 64; a++ {
		for b := -1; b <= 64; b++ {
			for _, m := range []api.Machine{machine(64, []int{a, b}, 0, nil), machine(64, nil, 0, []int{a, b}), machine(64, nil, a, []int{b})} {
				if Right(m) != plainRight(m) {
					t.Fatalf("%v: right %v", m, Right(m))
				}
			}
		}
	}
}

// P5.2

func TestTexts(t *testing.T) {
	for _, x := range rightOnes {
		if s, e := Print(x.m); s != x.s || e != api.OK {
			t.Errorf("%v is written %q, %d", x.m, s, e)
		}
		if m, e := Parse(x.s); !same(m, x.m) || e != api.OK {
			t.Errorf("%q is read %v, %d", x.s, m, e)
		}
	}
}

func TestPrintOfWrongMachines(t *testing.T) {
	for n, m := range wrongOnes() {
		if s, e := Print(m); s != "" || e != api.ErrArg {
			t.Errorf("%d: %q, %d", n, s, e)
		}
	}
}

func TestParseOfOtherwiseWrittenTexts(t *testing.T) {
	want := machine(4, []int{0, 1}, 0, []int{2, 3})
	for _, s := range []string{
		"machine 4 args 0 1 ret 0 saved 2 3", "machine 4 args 0 1 ret 0 saved 2 3\n\n\n", "\n\n \t\n;\n; machine\nmachine 4 args 0 1 ret 0 saved 2 3\n;\n",
		"\t machine\t4  args 0\t\t1 ret 0 saved 2 3;4 Ä\n \n", "machine 4 args -0 01 ret 000 saved 2 000000000000000000000003 ;", "machine 04 args 00 1 ret -00 saved 02 3",
	} {
		if m, e := Parse(s); e != api.OK || !same(m, want) {
			t.Errorf("%q: %v, %d", s, m, e)
		}
	}
}

// breaks fails unless s has that error.
func breaks(t *testing.T, s string, e api.Errno) {
	t.Helper()
	if m, got := Parse(s); got != e || !reflect.DeepEqual(m, api.Machine{}) {
		t.Errorf("%.200q: %v, %d, not %d", s, m, got, e)
	}
}

func TestParseOfWrongTexts(t *testing.T) {
	for _, x := range []struct {
		s string
		e api.Errno
	}{
		{"", api.ErrWord}, {"\n\n", api.ErrWord}, {"; machine 1 args ret 0 saved", api.ErrWord}, {"machine", api.ErrWord}, {"machine 1", api.ErrWord}, {"machine 1 args", api.ErrWord}, {"machine 1 args 0", api.ErrWord}, {"machine 1 args 0 ret", api.ErrWord}, {"machine 1 args 0 ret 0", api.ErrWord}, {"machine 1 args 0 ret 0\n", api.ErrWord},
		{"1 args ret 0 saved", api.ErrWord}, {"machine args ret 0 saved", api.ErrWord}, {"machine 1 ret 0 saved", api.ErrWord}, {"machine 1 args saved", api.ErrWord}, {"machine 1 args ret saved", api.ErrWord}, {"machine 1 args 0 saved", api.ErrWord},
		{"machine 1 1 args ret 0 saved", api.ErrWord}, {"machine machine 1 args ret 0 saved", api.ErrWord}, {"machine 1 args args ret 0 saved", api.ErrWord}, {"machine 2 args ret 0 1 saved", api.ErrWord}, {"machine 2 args ret 0 ret 0 saved", api.ErrWord}, {"machine 2 args ret 0 saved saved", api.ErrWord}, {"machine 2 args ret 0 saved 1 saved", api.ErrWord},
		{"machine 2 ret 0 args saved", api.ErrWord}, {"machine 2 args saved ret 0", api.ErrWord}, {"machine 2 saved 1 args ret 0", api.ErrWord}, {"args machine 2 ret 0 saved", api.ErrWord}, {"machine 2 args ret 0 saved 1 args 0", api.ErrWord},
		{"machines 2 args ret 0 saved", api.ErrWord}, {"machine 2 arg ret 0 saved", api.ErrWord}, {"machine 2 args return 0 saved", api.ErrWord}, {"machine 2 args ret 0 save", api.ErrWord}, {"machine two args ret 0 saved", api.ErrWord}, {"machine 2 args r0 ret 0 saved", api.ErrWord}, {"machine 2 args 0 x ret 0 saved", api.ErrWord}, {"machine 2 args ret x saved", api.ErrWord}, {"machine 2 args ret 0 saved x", api.ErrWord}, {"machine 2 args ret 0 saved 1 x", api.ErrWord},
		{"machine 2 args = ret 0 saved", api.ErrWord}, {"machine 2 args 0, 1 ret 0 saved", api.ErrWord}, {"machine 2 args 0 ret = 0 saved", api.ErrWord}, {"machine 2 args 0 ret 0 saved →", api.ErrWord}, {"machine 2 args 0 ret 0 saved 1 ,", api.ErrWord}, {"= machine 2 args 0 ret 0 saved", api.ErrWord},
		{"machine\n2 args ret 0 saved", api.ErrWord}, {"machine 2\nargs ret 0 saved", api.ErrWord}, {"machine 2 args\nret 0 saved", api.ErrWord}, {"machine 2 args 0\nret 0 saved", api.ErrWord}, {"machine 2 args 0 ret\n0 saved", api.ErrWord}, {"machine 2 args 0 ret 0\nsaved", api.ErrWord}, {"machine 2 args 0 ret 0 saved\n1", api.ErrWord}, {"machine 3 args 0 ret 0 saved 1\n2", api.ErrWord}, {"machine 2 args 0 ret 0 saved\nx", api.ErrWord}, {"machine 2 args ret 0 saved\nmachine 2 args ret 0 saved\n", api.ErrWord}, {"machine 2 ; args ret 0 saved", api.ErrWord},
		{"machine 65 args ret 0 saved", api.ErrLong}, {"machine -1 args ret 0 saved", api.ErrLong}, {"machine 1099511627776 args ret 0 saved", api.ErrLong}, {"machine 1099511627777 args ret 0 saved", api.ErrLong}, {"machine 64 args 65 ret 0 saved", api.ErrLong}, {"machine 64 args 0 -1 ret 0 saved", api.ErrLong}, {"machine 64 args ret 65 saved", api.ErrLong}, {"machine 64 args ret -1 saved", api.ErrLong}, {"machine 64 args ret 0 saved 1 65", api.ErrLong}, {"machine 64 args ret 0 saved -1", api.ErrLong},
		{"machine 0 args ret 0 saved", api.ErrArg}, {"machine 64 args 64 ret 0 saved", api.ErrArg}, {"machine 64 args ret 64 saved", api.ErrArg}, {"machine 64 args ret 0 saved 64", api.ErrArg}, {"machine 2 args 2 ret 0 saved", api.ErrArg}, {"machine 2 args 0 0 ret 0 saved", api.ErrArg}, {"machine 2 args ret 2 saved", api.ErrArg}, {"machine 2 args ret 0 saved 2", api.ErrArg}, {"machine 2 args ret 0 saved 0", api.ErrArg}, {"machine 4 args ret 0 saved 2 1", api.ErrArg}, {"machine 4 args ret 0 saved 1 1", api.ErrArg}, {"machine 9 args 0 1 2 3 4 5 6 7 8 ret 0 saved", api.ErrArg}, {"machine 2 args ret 0 saved 0 1", api.ErrArg}, {"machine 2 args ret 0 saved 1 1 1", api.ErrArg},
		{"Machine 1 args ret 0 saved", api.ErrRune}, {"machine 1 args ret 0 saved\n\xff", api.ErrRune}, {"machine 1 args ret 0 saved ; \xff", api.ErrRune}, {"machine 1 args ret 0 saved -", api.ErrRune}, {"machine 1 args ret 0 saved 1x", api.ErrRune}, {"machine 1args ret 0 saved", api.ErrRune}, {"machine 1\r args ret 0 saved", api.ErrRune}, {"machine 1 args ret 0 saved " + strings.Repeat("a", 17), api.ErrLong},
	} {
		breaks(t, x.s, x.e)
	}
}

// The first of several errors is told; words that can't be read are told ahead of all others.
func TestParseTellsTheFirstError(t *testing.T) {
	for _, x := range []struct {
		s string
		e api.Errno
	}{
		{"machine 65 arg ret 0 saved", api.ErrLong}, {"machine x args 65", api.ErrWord}, {"machine 4 args 65 x", api.ErrLong}, {"machine 4 args x 65", api.ErrWord}, {"machine 0 args x", api.ErrWord}, {"machine 0 args 0 0 ret 65 saved", api.ErrLong}, {"machine 4 args ret 0 saved 2 1 x", api.ErrWord}, {"machine 4 args ret 0 saved 2 1 65", api.ErrLong},
		{"machine x 1099511627777", api.ErrLong}, {"machine 65 X", api.ErrRune}, {"x 1x " + strings.Repeat("a", 17), api.ErrRune}, {"machine 64 args 0 1 2 3 4 5 6 7 8 x", api.ErrWord}, {"machine 64 args 0 1 2 3 4 5 6 7 8 9 10 65", api.ErrLong},
	} {
		breaks(t, x.s, x.e)
	}
}

func TestParseOfLongTexts(t *testing.T) {
	whole := "machine 4 args 0 1 ret 0 saved 2 3"
	for _, fill := range []string{" ", "\n", ";"} {
		s := whole + strings.Repeat(fill, 1<<18-len(whole))
		if m, e := Parse(s); e != api.OK || !same(m, machine(4, []int{0, 1}, 0, []int{2, 3})) {
			t.Errorf("%q: %v, %d", fill, m, e)
		}
		breaks(t, s+fill, api.ErrLong)
		breaks(t, fill+s, api.ErrLong)
	}
	// Bytes are counted, not runes.
	s := whole + ";" + strings.Repeat("→", (1<<18-len(whole)-1)/3)
	if _, e := Parse(s); e != api.OK {
		t.Error(e)
	}
	breaks(t, s+"→", api.ErrLong)
	// ErrLong is told ahead of what can't be read.
	breaks(t, strings.Repeat("X", 1<<18), api.ErrRune)
	breaks(t, strings.Repeat("X", 1<<18+1), api.ErrLong)
	// There may be as many numbers as there is text, ahead of it being told that they are too many.
	many := strings.Repeat(" 1", 1<<17-20)
	breaks(t, "machine 4 args"+many+" ret 0 saved", api.ErrArg)
	breaks(t, "machine 4 args ret 0 saved"+many, api.ErrArg)
	breaks(t, "machine 4 args ret 0 saved"+many+" x", api.ErrWord)
}

// Each number at each place.
func TestParseOfEachNumber(t *testing.T) {
	for n := -2; n <= 67; n++ {
		s := strconv.Itoa(n)
		want := func(right bool) api.Errno {
			if n < 0 || n > 64 {
				return api.ErrLong
			} else if !right {
				return api.ErrArg
			}
			return api.OK
		}
		for _, x := range []struct {
			s string
			e api.Errno
		}{
			{"machine " + s + " args ret 0 saved", want(n > 0)}, {"machine 64 args 7 " + s + " ret 0 saved", want(n != 7 && n < 64)}, {"machine 64 args ret " + s + " saved 7", want(n != 7 && n < 64)}, {"machine 64 args ret 0 saved " + s + " 63", want(0 < n && n < 63)},
		} {
			if _, e := Parse(x.s); e != x.e {
				t.Errorf("%q: %d, not %d", x.s, e, x.e)
			}
		}
	}
}

// agrees fails unless s is read as the plain reading has it.
func agrees(t *testing.T, s string) {
	t.Helper()
	m, e := Parse(s)
	want, wantE := plainParse(s)
	if e != wantE || !same(m, want) {
		t.Fatalf("%q: %v, %d, not %v, %d", s, m, e, want, wantE)
	}
}

func TestAgreesWithThePlainReading(t *testing.T) {
	words := []string{"machine ", "args ", "ret ", "saved ", "0 ", "2 ", "65 ", "\n", "x ", "= "}
	texts(words, 4, func(s string) {
		agrees(t, s)
		agrees(t, "machine 2 "+s)
		agrees(t, "machine 3 args 1 "+s+" ret 2 saved")
		agrees(t, "machine 3 args "+s)
		agrees(t, "machine 3 args 2 ret 2 saved 1 "+s)
	})
	texts([]string{"0", "1", "4", "6", "-", " ", "\n", ";", "x"}, 5, func(s string) { agrees(t, "machine 64 args ret 2 saved "+s) })
}

// What is there, with one word left out, put in, or taken for another one.
func TestAgreesWithThePlainReadingOfChangedTexts(t *testing.T) {
	for _, x := range rightOnes {
		words := strings.Fields(x.s)
		for n := range words {
			for _, w := range append(slices.Clone(words), "", "0", "64", "65", "-1", "-0", "007", "\n", "\t", ";", "=", "x", "X", "1099511627777") {
				agrees(t, strings.Join(slices.Concat(words[:n], []string{w}, words[n+1:]), " "))
				agrees(t, strings.Join(slices.Concat(words[:n], []string{w}, words[n:]), " "))
				agrees(t, strings.Join(slices.Concat(words, []string{w}, words[n:]), " "))
			}
		}
	}
}

// P5.3

func TestWhatIsWrittenIsRead(t *testing.T) {
	small(func(m api.Machine) {
		s, e := Print(m)
		if !plainRight(m) {
			if s != "" || e != api.ErrArg {
				t.Fatalf("%v is written %q, %d", m, s, e)
			}
			return
		}
		if s != plainText(m) || e != api.OK {
			t.Fatalf("%v is written %q, %d", m, s, e)
		}
		if n, e := Parse(s); e != api.OK || !same(m, n) {
			t.Fatalf("%q is read %v, %d", s, n, e)
		}
	})
}

// Words are gone through alike however numbers are written: what is read, and written, is read the same.
func TestRegistersInTexts(t *testing.T) {
	s := "machine 64 args" + numbered(63, 62, 61, 60, 59, 58, 57, 56) + " ret 0 saved" + numbered(from(1, 64)...)
	m, e := Parse(s)
	if e != api.OK || !same(m, machine(64, []int{63, 62, 61, 60, 59, 58, 57, 56}, 0, from(1, 64))) {
		t.Fatal(m, e)
	}
	if again, e := Print(m); e != api.OK || again != s+"\n" {
		t.Error(again, e)
	}
}

func TestSavedOrLostNotBoth(t *testing.T) {
	try := func(m api.Machine) {
		lost, kept := Lost(m), []int(nil)
		for _, f := range Keeps(m) {
			kept = append(kept, f.At.N)
		}
		for reg := -1; Right(m) && reg <= 65; reg++ {
			isReg := 0 <= reg && reg < m.Regs
			saved := IsSaved(m, reg)
			if saved && slices.Contains(lost, reg) || isReg != (saved || slices.Contains(lost, reg)) || saved != slices.Contains(kept, reg) {
				t.Fatalf("%v: %d", m, reg)
			}
		}
	}
	for _, x := range rightOnes {
		try(x.m)
	}
	for _, saved := range rows(upTo(4), 3) {
		for regs := 1; regs <= 6; regs++ {
			try(machine(regs, nil, regs-1, saved))
		}
	}
}

// R3, R4

func TestNothingIsChangedOrKept(t *testing.T) {
	all := wrongOnes()
	for _, x := range rightOnes {
		all = append(all, x.m)
	}
	for _, m := range all {
		m, was := copyOf(m), copyOf(m)
		ask := func() {
			Right(m)
			IsSaved(m, 1)
			Enough(m, 1, 1)
			for n, l := 0, Lost(m); n < len(l); n++ {
				l[n] = -9
			}
			for n, l := 0, Keeps(m); n < len(l); n++ {
				l[n] = api.Fact{}
			}
			Print(m)
		}
		s, e := Print(m)
		lost, keeps := Lost(m), Keeps(m)
		ask()
		if !same(m, was) || !slices.Equal(Lost(m), lost) || !slices.Equal(Keeps(m), keeps) {
			t.Errorf("%v became %v", was, m)
		}
		if again, f := Print(m); again != s || f != e {
			t.Errorf("%v is written %q, then %q", m, s, again)
		}
	}
}

func TestWhatIsReadIsNewMemory(t *testing.T) {
	s := "machine 8 args 1 2 3 ret 0 saved 4 5 6"
	m, _ := Parse(s)
	for n := range m.Args {
		m.Args[n] = 9
	}
	_ = append(m.Args[:3:cap(m.Args)], 9, 9, 9)
	if !slices.Equal(m.Saved, []int{4, 5, 6}) {
		t.Error(m)
	}
	if again, e := Parse(s); e != api.OK || !same(again, machine(8, []int{1, 2, 3}, 0, []int{4, 5, 6})) {
		t.Error(again, e)
	}
}
