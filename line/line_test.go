package line

import (
	"slices"
	"strings"
	"testing"

	"intarsia/api"
	"intarsia/word"
)

// stands fails unless a cursor's Err is that.
func stands(t *testing.T, what string, c *Cursor, line, col int, e api.Errno) {
	t.Helper()
	if l, k, got := c.Err(); l != line || k != col || got != e {
		t.Errorf("%s: Err is %d, %d, %d, not %d, %d, %d", what, l, k, got, line, col, e)
	}
}

// P2.1

func TestKeyGoesOverThatNameAlone(t *testing.T) {
	c := Over("ab λ_1 = ab")
	for _, s := range []string{"", "a", "abc", "b", "λ_1", "=", "AB", "ab ", "\xff", strings.Repeat("a", 99)} {
		if c.Key(s) {
			t.Errorf("%q is next", s)
		}
	}
	stands(t, "not gone over", c, 1, 1, api.ErrWord)
	if !c.Key("ab") || c.Key("ab") || !c.Key("λ_1") || c.Key("=") || !c.Is("=") || !c.Key("ab") || c.Key("ab") || c.Key("") {
		t.Error("not the names in order")
	}
	stands(t, "behind all", c, 0, 0, api.OK)
}

func TestKeyIsNoNumberSignOrEnd(t *testing.T) {
	c := Over("5 = \n b")
	if c.Key("5") || c.Num(5, 5) != 5 || c.Key("=") || !c.Is("=") || c.Key("\n") || c.Key("") || !c.Ends() {
		t.Error("a name where none is")
	}
	stands(t, "at the end", c, 1, 5, api.ErrWord)
}

func TestIsGoesOverEachSign(t *testing.T) {
	const signs = "=,:()[]+→←·"
	c := Over(signs)
	for _, r := range signs {
		for _, other := range signs {
			if other != r && c.Is(string(other)) {
				t.Errorf("%c is taken for %c", r, other)
			}
		}
		if c.Is("") || c.Is(string(r)+string(r)) || c.Is(string(r)+" ") || !c.Is(string(r)) {
			t.Errorf("%c is not gone over", r)
		}
	}
	if c.More() || c.Is("") || c.Is("=") {
		t.Error("more than all signs")
	}
}

func TestIsIsNoNameNumberOrEnd(t *testing.T) {
	c := Over("a -5\nb")
	if c.Is("a") || c.Name() != "a" || c.Is("-5") || c.Is("-") || c.Num(-9, 0) != -5 || c.Is("\n") || c.Is("") {
		t.Error("a sign where none is")
	}
	stands(t, "at the end", c, 1, 5, api.ErrWord)
}

func TestMoreEndsPeek(t *testing.T) {
	c := Over("a 7 →\n\nbc\n")
	for _, want := range []seen{
		{true, false, "a", 1, 1, api.ErrWord}, {true, false, "", 1, 3, api.ErrWord}, {true, false, "", 1, 5, api.ErrWord},
		{true, true, "", 1, 6, api.ErrWord}, {true, false, "bc", 3, 1, api.ErrWord}, {false, true, "", 0, 0, api.OK},
	} {
		if see(c) != want || see(c) != want {
			t.Errorf("%v, not %v", see(c), want)
		}
		switch {
		case c.Key("a"), c.Is("→"), c.Key("bc"):
		case c.More() && !c.Ends():
			c.Num(7, 7)
		default:
			c.End()
		}
	}
}

// P2.2

func TestNumWithinItsBounds(t *testing.T) {
	const most = api.MaxImm
	for _, x := range []struct {
		s           string
		least, most int
		n           int
		e           api.Errno
	}{
		{"5", 0, 9, 5, api.OK}, {"0", 0, 0, 0, api.OK}, {"-5", -5, -5, -5, api.OK}, {"9", 0, 9, 9, api.OK}, {"007", 7, 7, 7, api.OK}, {"-0", 0, 0, 0, api.OK},
		{"1099511627776", -most, most, most, api.OK}, {"-1099511627776", -most, most, -most, api.OK}, {"3", -1 << 63, 1<<63 - 1, 3, api.OK},
		{"10", 0, 9, 0, api.ErrLong}, {"-1", 0, 9, 0, api.ErrLong}, {"5", 6, 4, 0, api.ErrLong}, {"5", 9, 0, 0, api.ErrLong}, {"0", 1, 1, 0, api.ErrLong},
		{"a", 0, 9, 0, api.ErrWord}, {"=", 0, 9, 0, api.ErrWord}, {"a", 9, 0, 0, api.ErrWord},
	} {
		c := Over(x.s)
		if n := c.Num(x.least, x.most); n != x.n {
			t.Errorf("Num(%d, %d) of %q is %d", x.least, x.most, x.s, n)
		}
		if x.e == api.OK {
			stands(t, x.s, c, 0, 0, api.OK)
		} else {
			stands(t, x.s, c, 1, 1, x.e)
		}
	}
}

func TestWhatCantBeGotBreaks(t *testing.T) {
	for _, x := range []struct {
		s         string
		do        func(c *Cursor)
		line, col int
		e         api.Errno
	}{
		{"a 5", func(c *Cursor) { c.Name(); c.Name() }, 1, 3, api.ErrWord},
		{"a =", func(c *Cursor) { c.Name(); c.Name() }, 1, 3, api.ErrWord},
		{"a\nb", func(c *Cursor) { c.Name(); c.Name() }, 1, 2, api.ErrWord},
		{"a\n", func(c *Cursor) { c.Name(); c.Name() }, 0, 0, api.ErrWord},
		{"a\nb", func(c *Cursor) { c.Name(); c.Num(0, 9) }, 1, 2, api.ErrWord},
		{"1", func(c *Cursor) { c.Num(0, 9); c.Num(0, 9) }, 0, 0, api.ErrWord},
		{"λ · 7", func(c *Cursor) { c.Name(); c.Mark("·"); c.Num(8, 9) }, 1, 5, api.ErrLong},
		{"= = (", func(c *Cursor) { c.Mark("=", "=", ")", "(") }, 1, 5, api.ErrWord},
		{"= =", func(c *Cursor) { c.Mark("=", "=", "=") }, 0, 0, api.ErrWord},
		{"= \n =", func(c *Cursor) { c.Mark("=", "=") }, 1, 3, api.ErrWord},
		{"= a", func(c *Cursor) { c.Mark("=", "a") }, 1, 3, api.ErrWord},
		{"= 5", func(c *Cursor) { c.Mark("=", "5") }, 1, 3, api.ErrWord},
		{"→", func(c *Cursor) { c.Mark("") }, 1, 1, api.ErrWord},
		{"==", func(c *Cursor) { c.Mark("==") }, 1, 1, api.ErrWord},
		{"", func(c *Cursor) { c.Mark("=") }, 0, 0, api.ErrWord},
		{"a\nb", func(c *Cursor) { c.Name(); c.Mark("\n") }, 1, 2, api.ErrWord},
		{"a\nb", func(c *Cursor) { c.Name(); c.Mark("") }, 1, 2, api.ErrWord},
		{"a b", func(c *Cursor) { c.Name(); c.End() }, 1, 3, api.ErrWord},
		{"a\nb c", func(c *Cursor) { c.Name(); c.End(); c.End() }, 2, 1, api.ErrWord},
	} {
		c := Over(x.s)
		x.do(c)
		stands(t, x.s, c, x.line, x.col, x.e)
		broken := see(c)
		if broken != (seen{false, true, "", x.line, x.col, x.e}) {
			t.Errorf("of %q a broken one tells %v", x.s, broken)
		}
		if c.Key("b") || c.Is("=") || c.Is("(") || c.Name() != "" || c.Num(-api.MaxImm, api.MaxImm) != 0 {
			t.Errorf("of %q a broken one goes on", x.s)
		}
		c.Mark("=")
		c.End()
		c.Fail(api.ErrArg)
		if see(c) != broken {
			t.Errorf("of %q it does not stay broken: %v", x.s, see(c))
		}
	}
}

func TestMarkAndEndThatBreakNothing(t *testing.T) {
	c := Over("= , : ( ) a\n\n ; r\n 1\n")
	c.Mark()
	c.Mark("=")
	c.Mark(",", ":", "(", ")")
	stands(t, "behind the signs", c, 1, 11, api.ErrWord)
	c.Mark()
	if c.Name() != "a" {
		t.Error("no name behind the signs")
	}
	c.End()
	if c.Num(1, 1) != 1 {
		t.Error("no number behind the end")
	}
	c.End()
	c.End()
	c.Mark()
	stands(t, "behind all", c, 0, 0, api.OK)
}

func TestMarkKeepsItsSigns(t *testing.T) {
	signs := []string{"=", "→", "="}
	Over("=→(").Mark(signs...)
	if !slices.Equal(signs, []string{"=", "→", "="}) {
		t.Error(signs)
	}
}

// P2.3

func TestFail(t *testing.T) {
	for _, x := range []struct {
		s         string
		e         []api.Errno
		line, col int
		want      api.Errno
	}{
		{"a", []api.Errno{api.OK}, 1, 1, api.ErrWord}, {"", []api.Errno{api.OK}, 0, 0, api.OK}, {" a", []api.Errno{api.OK, api.ErrVar, api.OK}, 1, 2, api.ErrVar},
		{"\n a", []api.Errno{api.ErrArg, api.ErrVar}, 2, 2, api.ErrArg}, {"", []api.Errno{api.ErrShape, api.ErrWord}, 0, 0, api.ErrShape},
		{"5", []api.Errno{api.ErrNil}, 1, 1, api.ErrNil}, {"5", []api.Errno{-3}, 1, 1, -3}, {"\n", []api.Errno{1 << 40}, 0, 0, 1 << 40},
	} {
		c := Over(x.s)
		for _, e := range x.e {
			c.Fail(e)
		}
		stands(t, x.s, c, x.line, x.col, x.want)
		if x.want != api.OK && x.want != api.ErrWord && (c.More() || !c.Ends() || c.Peek() != "") {
			t.Errorf("%q is not broken", x.s)
		}
	}
	c := Over("a")
	c.Fail(api.OK)
	if c.Name() != "a" {
		t.Error("broken with OK")
	}
}

func TestErrOfAWordThatIsLeft(t *testing.T) {
	c := Over("a →\n b")
	stands(t, "at first", c, 1, 1, api.ErrWord)
	c.Name()
	stands(t, "behind a name", c, 1, 3, api.ErrWord)
	c.Mark("→")
	stands(t, "at an end", c, 1, 4, api.ErrWord)
	c.End()
	stands(t, "in the next line", c, 2, 2, api.ErrWord)
	c.Name()
	stands(t, "behind all", c, 0, 0, api.OK)
}

func TestTextThatCantBeReadIsBroken(t *testing.T) {
	for _, x := range []struct {
		s         string
		line, col int
		e         api.Errno
	}{
		{"A", 1, 1, api.ErrRune}, {"a\nλ é", 2, 3, api.ErrRune}, {"a \xff", 1, 3, api.ErrRune}, {"a\n 12b", 2, 4, api.ErrRune}, {"; \xc3", 1, 3, api.ErrRune},
		{"a " + strings.Repeat("b", 17), 1, 3, api.ErrLong}, {"a 1099511627777", 1, 3, api.ErrLong}, {"a - b", 1, 3, api.ErrRune},
	} {
		c := Over(x.s)
		stands(t, x.s, c, x.line, x.col, x.e)
		if c.Key("a") || c.Name() != "" || c.More() || !c.Ends() || c.Peek() != "" {
			t.Errorf("%q has words", x.s)
		}
		c.Fail(api.ErrVar)
		c.End()
		stands(t, x.s, c, x.line, x.col, x.e)
	}
}

// P2.4

func TestNoCursor(t *testing.T) {
	copied := *Over("a")
	for what, c := range map[string]*Cursor{"nil": nil, "a new one": new(Cursor), "a copy": &copied} {
		for range 2 {
			if c.Key("a") || c.Key("") || c.Is("=") || c.Is("") || c.Name() != "" || c.Num(0, 9) != 0 {
				t.Errorf("%s has a word", what)
			}
			if c.More() || !c.Ends() || c.Peek() != "" {
				t.Errorf("%s has a next word", what)
			}
			stands(t, what, c, 0, 0, api.ErrNil)
			c.Mark()
			c.Mark("=", "=")
			c.End()
			c.Fail(api.ErrVar)
			c.Fail(api.OK)
			stands(t, what, c, 0, 0, api.ErrNil)
		}
	}
}

// P2.5

// transcript gets all that a cursor has, word by word.
func transcript(c *Cursor) (out []word.Word) {
	for c.More() {
		line, col, _ := c.Err()
		w := word.Word{Line: line, Col: col}
		switch {
		case c.Ends():
			c.End()
			w.Kind = word.End
		case c.Peek() != "":
			w.Kind, w.Text = word.Name, c.Name()
		default:
			for _, r := range "=,:()[]+→←·" {
				if w.Kind == 0 && c.Is(string(r)) {
					w.Kind, w.Text = word.Mark, string(r)
				}
			}
			if w.Kind == 0 {
				w.Kind, w.N = word.Number, c.Num(-api.MaxImm, api.MaxImm)
			}
		}
		out = append(out, w)
	}
	return out
}

// bare are words without their places, and numbers without how they are written.
func bare(l []word.Word) []word.Word {
	out := slices.Clone(l)
	for i, w := range out {
		out[i].Line, out[i].Col = 0, 0
		if w.Kind == word.Number {
			out[i].Text = ""
		}
	}
	return out
}

func TestWordsInOrder(t *testing.T) {
	texts([]string{"a", " λ2", " 5", "-7", "=", "→", "\n", "\n ", ";=\n", "\t"}, 5, func(s string) {
		l, _, _, e := word.Read(s)
		if e != api.OK {
			return
		}
		want := counted(l)
		for i := range want {
			if want[i].Kind == word.Number {
				want[i].Text = ""
			}
		}
		c := Over(s)
		if got := transcript(c); !slices.Equal(got, want) {
			t.Fatalf("of %q are got %v, not %v", s, got, want)
		}
		stands(t, s, c, 0, 0, api.OK)
	})
}

func TestEndsOfATextAreNone(t *testing.T) {
	for _, s := range []string{"", "\n", "\n\n", " \t", "; r", ";\n;\n", "\n \n\t;a\n\n"} {
		c := Over(s)
		if see(c) != (seen{false, true, "", 0, 0, api.OK}) {
			t.Errorf("of %q: %v", s, see(c))
		}
		c.End()
		stands(t, s, c, 0, 0, api.OK)
	}
}

// withOthers writes a text with other blanks, remarks, empty lines and noughts.
func withOthers(s string) string {
	s = strings.ReplaceAll(s, " ", "\t  ")
	s = strings.ReplaceAll(s, "5", "005")
	s = strings.ReplaceAll(s, "\n", " ; a = é\n\n\t\n; →\n ")
	return "\n ; A\n\n" + s + "\n\n \t; end"
}

func TestOtherBlanksTellTheSame(t *testing.T) {
	texts([]string{"a ", "→ ", "5 ", "-5 ", "\n"}, 5, func(s string) {
		one, other := transcript(Over(s)), transcript(Over(withOthers(s)))
		if !slices.Equal(bare(one), bare(other)) {
			t.Fatalf("%q tells %v, with others %v", s, one, other)
		}
	})
}

// All calls, one behind the other, of all short texts: P2.1 to P2.3 at once.
func TestAgreesWithThePlainCursor(t *testing.T) {
	deeds := []deed{
		key("a"), key(""), is("="), is("→"), getName(), getNum(0, 9), getNum(9, 0),
		marks(), marks("="), marks("=", "→"), getEnd(), failing(api.OK), failing(api.ErrVar),
	}
	try := func(s string, row []deed) {
		c, p := Over(s), plainOver(s)
		for i, d := range row {
			g, want := d.real(c), d.plain(p)
			if g != want || see(c) != p.see() {
				t.Fatalf("%q, behind %d calls %s: %v, %v; plainly %v, %v", s, i, d.name, g, see(c), want, p.see())
			}
		}
	}
	texts([]string{"a", " b1", "=", "→", " 5", " -12", "\n", "; r\n", "A"}, 3, func(s string) {
		if c, p := Over(s), plainOver(s); see(c) != p.see() {
			t.Fatalf("%q at first: %v, plainly %v", s, see(c), p.see())
		}
		for _, d1 := range deeds {
			for _, d2 := range deeds {
				for _, d3 := range deeds {
					try(s, []deed{d1, d2, d3})
				}
			}
		}
	})
}

func TestCursorsAreApart(t *testing.T) {
	const s = "a b"
	c, d := Over(s), Over(s)
	c.Name()
	c.Fail(api.ErrVar)
	stands(t, "the other one", d, 1, 1, api.ErrWord)
	if d.Name() != "a" || d.Name() != "b" {
		t.Error("the other one lost its words")
	}
}

func TestLongText(t *testing.T) {
	const many = 1 << 15
	c := Over(strings.Repeat("a = 5\n\n", many))
	for i := range many {
		if c.Name() != "a" || !c.Is("=") || c.Num(5, 5) != 5 || !c.Ends() {
			t.Fatal(i)
		}
		c.End()
	}
	stands(t, "behind all", c, 0, 0, api.OK)
}
