package word

import (
	"slices"
	"strconv"
	"strings"
	"testing"

	"intarsia/api"
)

const (
	allLetters = "abcdefghijklmnopqrstuvwxyzαβγδεζηθικλμνξοπρςστυφχψω_"
	allSigns   = "=,:()[]+→←·"
)

func name(s string) Word { return Word{Kind: Name, Text: s} }
func number(n int) Word  { return Word{Kind: Number, Text: strconv.Itoa(n), N: n} }
func mark(s string) Word { return Word{Kind: Mark, Text: s} }
func end() Word          { return Word{Kind: End} }

// at gives a word its place.
func at(w Word, line, col int) Word {
	w.Line, w.Col = line, col
	return w
}

// bare are words without their places.
func bare(l []Word) []Word {
	out := slices.Clone(l)
	for i := range out {
		out[i] = at(out[i], 0, 0)
	}
	return out
}

// P1.1

func TestLetterAndSignOfEachRune(t *testing.T) {
	kinds := map[rune]Kind{}
	for _, r := range allLetters {
		kinds[r] = Name
	}
	for _, r := range allSigns {
		kinds[r] = Mark
	}
	if len(kinds) != 26+25+1+11 {
		t.Fatal(len(kinds))
	}
	for r := rune(-2); r <= 0x110001; r++ {
		if Letter(r) != (kinds[r] == Name) {
			t.Errorf("Letter(%U) = %v", r, Letter(r))
		}
		if Sign(r) != (kinds[r] == Mark) {
			t.Errorf("Sign(%U) = %v", r, Sign(r))
		}
	}
	for _, r := range []rune{-1 << 31, 1<<31 - 1} {
		if Letter(r) || Sign(r) {
			t.Errorf("%d is a letter or a sign", r)
		}
	}
}

func TestIsName(t *testing.T) {
	for s, want := range map[string]bool{
		"a": true, "z9": true, "_": true, "__0": true, "α": true, "ω": true, "ς1": true, "aλ_7": true,
		"a123456789012345": true, strings.Repeat("ω", 16): true, strings.Repeat("z", 15) + "_": true,
		"": false, "0": false, "9a": false, "A": false, "aB": false, "Α": false, "ά": false, "é": false,
		"a ": false, " a": false, "a\n": false, "a-1": false, "-a": false, "a;": false, "a=": false, "a\x00": false,
		"a1234567890123456": false, strings.Repeat("ω", 17): false, strings.Repeat("a", 1<<16): false,
		"\xff": false, "a\xff": false, "\xceb": false, "a\xce": false, "a\uFFFD": false,
	} {
		if IsName(s) != want {
			t.Errorf("IsName(%q) = %v", s, !want)
		}
	}
}

// P1.2

func TestReadWords(t *testing.T) {
	for s, want := range map[string][]Word{
		"":                        nil,
		" \t ":                    nil,
		"; all \xc3\xa9 \u0000 ;": nil,
		"x1 = -5 ; five":          {at(name("x1"), 1, 1), at(mark("="), 1, 4), at(number(-5), 1, 6)},
		"ab→c":                    {at(name("ab"), 1, 1), at(mark("→"), 1, 3), at(name("c"), 1, 4)},
		"\n\n":                    {at(end(), 1, 1), at(end(), 2, 1)},
		"a\n\tβ;γ\n":              {at(name("a"), 1, 1), at(end(), 1, 2), at(name("β"), 2, 2), at(end(), 2, 5)},
		"·←λ_2:7":                 {at(mark("·"), 1, 1), at(mark("←"), 1, 2), at(name("λ_2"), 1, 3), at(mark(":"), 1, 6), at(number(7), 1, 7)},
		"5-3":                     {at(number(5), 1, 1), at(number(-3), 1, 2)},
		"a-3":                     {at(name("a"), 1, 1), at(number(-3), 1, 2)},
		"1;\xef\xbf\xbd\n2":       {at(number(1), 1, 1), at(end(), 1, 4), at(number(2), 2, 1)},
		"007 -00 -0":              {{Number, "007", 7, 1, 1}, {Number, "-00", 0, 1, 5}, {Number, "-0", 0, 1, 9}},
		"1099511627776":           {at(number(api.MaxImm), 1, 1)},
		"-1099511627776":          {at(number(-api.MaxImm), 1, 1)},
		"a123456789012345(":       {at(name("a123456789012345"), 1, 1), at(mark("("), 1, 17)},
		"ωωωωωωωωωωωωωωωω b":      {at(name("ωωωωωωωωωωωωωωωω"), 1, 1), at(name("b"), 1, 18)},
		"=,:()[]+": {at(mark("="), 1, 1), at(mark(","), 1, 2), at(mark(":"), 1, 3), at(mark("("), 1, 4),
			at(mark(")"), 1, 5), at(mark("["), 1, 6), at(mark("]"), 1, 7), at(mark("+"), 1, 8)},
	} {
		l, line, col, e := Read(s)
		if !slices.Equal(l, want) || line != 0 || col != 0 || e != api.OK {
			t.Errorf("Read(%q) = %v, %d, %d, %d", s, l, line, col, e)
		}
	}
}

func TestReadNoughtsAhead(t *testing.T) {
	s := strings.Repeat("0", 1<<16) + "1099511627776"
	l, _, _, e := Read("-" + s)
	if e != api.OK || len(l) != 1 || l[0] != (Word{Number, "-" + s, -api.MaxImm, 1, 1}) {
		t.Error(len(l), e)
	}
}

func TestReadFaults(t *testing.T) {
	for _, c := range []struct {
		s         string
		line, col int
		e         api.Errno
	}{
		// runes that may not stand
		{"A", 1, 1, api.ErrRune}, {"a\n bB", 2, 3, api.ErrRune}, {"a\r\n", 1, 2, api.ErrRune}, {"\x00", 1, 1, api.ErrRune},
		{"a*b", 1, 2, api.ErrRune}, {"\ufeffa", 1, 1, api.ErrRune}, {"a\u00a0b", 1, 2, api.ErrRune}, {"x \uFFFD", 1, 3, api.ErrRune},
		{"α\tβ\té", 1, 5, api.ErrRune}, {"١", 1, 1, api.ErrRune}, {"\v", 1, 1, api.ErrRune}, {"; a\n; b\n→→!", 3, 3, api.ErrRune},
		// a minus without a digit
		{"-", 1, 1, api.ErrRune}, {"a -", 1, 3, api.ErrRune}, {"- 5", 1, 1, api.ErrRune}, {"--5", 1, 1, api.ErrRune}, {"-a", 1, 1, api.ErrRune},
		{"-;", 1, 1, api.ErrRune}, {"-\n5", 1, 1, api.ErrRune}, {"5-", 1, 2, api.ErrRune}, {"-\xff", 1, 1, api.ErrRune}, {"-٣", 1, 1, api.ErrRune},
		// a letter right behind digits
		{"12a", 1, 3, api.ErrRune}, {"-7_", 1, 3, api.ErrRune}, {"0ω", 1, 2, api.ErrRune}, {"a 1b", 1, 4, api.ErrRune},
		{"1" + strings.Repeat("a", 17), 1, 2, api.ErrRune},
		// bytes that are no rune
		{"\xff", 1, 1, api.ErrRune}, {"ab\xffc", 1, 3, api.ErrRune}, {"λ\xce", 1, 2, api.ErrRune}, {"\x80", 1, 1, api.ErrRune}, {"1\xce", 1, 2, api.ErrRune},
		{"; a\xff", 1, 4, api.ErrRune}, {"\n; ☃\xe2\x98", 2, 4, api.ErrRune}, {"; \xef\xbf", 1, 3, api.ErrRune}, {"; \xef\xbf\xbd\xef", 1, 4, api.ErrRune},
		{"; \xc0\x80", 1, 3, api.ErrRune}, {"\xc1\xa1", 1, 1, api.ErrRune}, {"; \xe0\x9f\xbf", 1, 3, api.ErrRune}, {"; \xf0\x8f\xbf\xbf", 1, 3, api.ErrRune},
		{"; \xed\xa0\x80", 1, 3, api.ErrRune}, {"; \xed\xbf\xbf", 1, 3, api.ErrRune}, {"; \xf4\x90\x80\x80", 1, 3, api.ErrRune}, {"; \xf5\x80\x80\x80", 1, 3, api.ErrRune},
		// names that are too long
		{strings.Repeat("a", 17), 1, 1, api.ErrLong}, {"\n x " + strings.Repeat("ω", 17), 2, 4, api.ErrLong}, {"a1234567890123456", 1, 1, api.ErrLong},
		{strings.Repeat("y", 17) + "\xff", 1, 1, api.ErrLong}, {strings.Repeat("y", 16) + "\xff", 1, 17, api.ErrRune}, {strings.Repeat("y", 1<<16), 1, 1, api.ErrLong},
		// numbers whose value may not be
		{"1099511627777", 1, 1, api.ErrLong}, {"-1099511627777", 1, 1, api.ErrLong}, {"a =\n 0001099511627777b", 2, 2, api.ErrLong},
		{"18446744073709551616", 1, 1, api.ErrLong}, {"-18446744073709551617", 1, 1, api.ErrLong}, {strings.Repeat("7", 1<<16), 1, 1, api.ErrLong}, {"x 9999999999999;\xff", 1, 3, api.ErrLong},
		// the first place of more
		{"A " + strings.Repeat("a", 17), 1, 1, api.ErrRune}, {strings.Repeat("a", 17) + " A", 1, 1, api.ErrLong},
	} {
		l, line, col, e := Read(c.s)
		if len(l) != 0 || line != c.line || col != c.col || e != c.e {
			t.Errorf("Read(%q) = %d words, %d, %d, %d", c.s, len(l), line, col, e)
		}
	}
}

func TestReadRunesAtTheBoundsOfUTF8(t *testing.T) {
	for _, s := range []string{"\u007f", "\u0080", "\u07ff", "\u0800", "\ud7ff", "\ue000", "\uffff", "\U00010000", "\U0010ffff"} {
		l, _, _, e := Read(";" + s + "\n")
		if e != api.OK || len(l) != 1 || l[0] != at(end(), 1, 3) {
			t.Errorf("a remark of %q: %v, %d", s, l, e)
		}
	}
}

// agreer holds Read of a text against the plain reading of it.
func agreer(t *testing.T) func(s string) {
	return func(s string) {
		l, line, col, e := Read(s)
		wl, wline, wcol, we := plainRead(s)
		if !slices.Equal(l, wl) || line != wline || col != wcol || e != we {
			t.Fatalf("Read(%q) = %v, %d, %d, %d; plainly %v, %d, %d, %d", s, l, line, col, e, wl, wline, wcol, we)
		}
	}
}

func TestReadAgreesWithThePlainReading(t *testing.T) {
	texts([]string{"a", "λ", "1", "0", "-", "→", " ", ";", "\n", "A", "\xff", "\uFFFD"}, 5, agreer(t))
}

func TestReadAgreesNearTheLimits(t *testing.T) {
	long := []string{strings.Repeat("a", 15), strings.Repeat("1", 15), "1099511627776", "1099511627777", "-", "0", "a", " ", "\n", "é"}
	texts(long, 4, agreer(t))
}

func TestReadLongText(t *testing.T) {
	const many = 1 << 14
	l, _, _, e := Read(strings.Repeat("aλ → -12 ; r\n", many))
	if e != api.OK || len(l) != 4*many {
		t.Fatal(len(l), e)
	}
	for i := 0; i < len(l); i += 4 {
		k := i/4 + 1
		if l[i] != at(name("aλ"), k, 1) || l[i+1] != at(mark("→"), k, 4) || l[i+2] != at(number(-12), k, 6) || l[i+3] != at(end(), k, 13) {
			t.Fatal(l[i : i+4])
		}
	}
}

// P1.3

func TestShow(t *testing.T) {
	for _, c := range []struct {
		l    []Word
		want string
	}{
		{nil, ""}, {[]Word{}, ""}, {[]Word{name("a")}, "a"}, {[]Word{end()}, "\n"}, {[]Word{end(), end()}, "\n\n"},
		{[]Word{name("x1"), mark("="), number(-5)}, "x1 = -5"},
		{[]Word{number(5), name("a"), mark("("), mark(")")}, "5 a ( )"},
		{[]Word{name("a"), end(), name("b"), mark("→"), end(), end(), number(0)}, "a\nb →\n\n0"},
		{[]Word{end(), name("a"), end()}, "\na\n"},
		{[]Word{number(api.MaxImm), number(-api.MaxImm)}, "1099511627776 -1099511627776"},
		{[]Word{at(name("ω"), -7, 1<<40), at(mark("·"), 0, -1), at(end(), 9, 9), at(number(1), 3, 3)}, "ω ·\n1"},
	} {
		before := slices.Clone(c.l)
		s, e := Show(c.l...)
		if s != c.want || e != api.OK {
			t.Errorf("Show(%v) = %q, %d", c.l, s, e)
		}
		if !slices.Equal(before, c.l) {
			t.Errorf("Show changed its words: %v", c.l)
		}
	}
}

func TestShowRefuses(t *testing.T) {
	const most = api.MaxImm
	for _, w := range []Word{
		{}, {Kind: 5}, {Kind: -1}, {Kind: 5, Text: "a"}, {Text: "a"},
		{Kind: Name}, {Kind: Name, Text: "1"}, {Kind: Name, Text: "A"}, {Kind: Name, Text: "a b"}, {Kind: Name, Text: "a\n"}, {Kind: Name, Text: "="},
		{Kind: Name, Text: strings.Repeat("a", 17)}, {Kind: Name, Text: "a\xff"}, {Kind: Name, Text: "a", N: 1}, {Kind: Name, Text: "a", N: -1},
		{Kind: Number}, {Kind: Number, Text: "a"}, {Kind: Number, Text: "7"}, {Kind: Number, Text: "7", N: 8}, {Kind: Number, Text: "07", N: 7},
		{Kind: Number, Text: "-0"}, {Kind: Number, Text: "00"}, {Kind: Number, Text: "+7", N: 7}, {Kind: Number, Text: "-07", N: -7}, {Kind: Number, Text: "7", N: -7},
		{Kind: Number, Text: "-7", N: 7}, {Kind: Number, Text: "7 ", N: 7}, {Kind: Number, Text: "٧", N: 7}, number(most + 1), number(-most - 1), number(1<<63 - 1), number(-1 << 63),
		{Kind: Mark}, {Kind: Mark, Text: "a"}, {Kind: Mark, Text: "=="}, {Kind: Mark, Text: "→→"}, {Kind: Mark, Text: "= "}, {Kind: Mark, Text: "-"}, {Kind: Mark, Text: ";"},
		{Kind: Mark, Text: "\n"}, {Kind: Mark, Text: "\xff"}, {Kind: Mark, Text: "=\xff"}, {Kind: Mark, Text: "\xe2\x86"}, {Kind: Mark, Text: "=", N: 1}, {Kind: Mark, Text: "\uFFFD"},
		{Kind: End, Text: "\n"}, {Kind: End, Text: "a"}, {Kind: End, N: 1},
	} {
		for _, l := range [][]Word{{w}, {w, name("a")}, {name("a"), end(), w}, {number(1), at(w, 1, 1), end()}} {
			if s, e := Show(l...); s != "" || e != api.ErrArg {
				t.Errorf("Show(%v) = %q, %d", l, s, e)
			}
		}
	}
}

// P1.4

func TestWhatIsShownIsRead(t *testing.T) {
	words := []Word{name("a"), name("_9"), name("ωω"), number(0), number(12), number(-3), number(api.MaxImm), number(-api.MaxImm), mark("="), mark("→"), mark("·"), end()}
	var row func(l []Word, more int)
	row = func(l []Word, more int) {
		s, e := Show(l...)
		if e != api.OK {
			t.Fatal(l, e)
		}
		got, line, col, e := Read(s)
		if e != api.OK || line != 0 || col != 0 || !slices.Equal(bare(got), l) {
			t.Fatalf("%q of %v is read as %v, %d", s, l, got, e)
		}
		if more == 0 {
			return
		}
		for _, w := range words {
			row(append(slices.Clone(l), w), more-1)
		}
	}
	row(nil, 4)
	for _, r := range allSigns {
		row([]Word{name("a"), mark(string(r)), number(-1)}, 0)
	}
	for _, r := range allLetters {
		row([]Word{number(1), name(string(r)), end()}, 0)
	}
}

func TestWhatIsReadCanBeShown(t *testing.T) {
	texts([]string{"a", "λ", "10", "0", "-", "=", "←", " ", ";", "\n"}, 5, func(s string) {
		l, _, _, e := Read(s)
		if e != api.OK {
			return
		}
		plain := !slices.ContainsFunc(l, func(w Word) bool { return w.Kind == Number && w.Text != strconv.Itoa(w.N) })
		shown, e := Show(l...)
		if plain != (e == api.OK) {
			t.Fatalf("Show of what is read of %q: %d", s, e)
		}
		if !plain {
			return
		}
		again, _, _, e := Read(shown)
		if e != api.OK || !slices.Equal(bare(again), bare(l)) {
			t.Fatalf("%q is shown as %q, that is read as %v, %d", s, shown, again, e)
		}
	})
}
