package word

import (
	"math/big"
	"strings"
	"unicode/utf8"

	"intarsia/api"
)

// texts tells do all texts of at most so many parts.
func texts(parts []string, most int, do func(s string)) {
	var grow func(s string, more int)
	grow = func(s string, more int) {
		do(s)
		if more == 0 {
			return
		}
		for _, p := range parts {
			grow(s+p, more-1)
		}
	}
	grow("", most)
}

// glyph is a rune at its place; of bytes that are none, r is -1.
type glyph struct {
	r         rune
	line, col int
}

func glyphs(s string) (out []glyph) {
	line, col := 1, 1
	for len(s) > 0 {
		r, size := utf8.DecodeRuneInString(s)
		if r == utf8.RuneError && size == 1 {
			r = -1
		}
		out = append(out, glyph{r, line, col})
		s = s[size:]
		col++
		if r == '\n' {
			line, col = line+1, 1
		}
	}
	return out
}

// plainRead says what Read must, as the chapter does: it looks for the longest word at each place.
func plainRead(s string) (l []Word, line, col int, e api.Errno) {
	g := glyphs(s)
	is := func(i int, set string) bool { return i < len(g) && g[i].r >= 0 && strings.ContainsRune(set, g[i].r) }
	span := func(i int, set string) (text string, next int) {
		for ; is(i, set); i++ {
			text += string(g[i].r)
		}
		return text, i
	}
	const digits = "0123456789"
	for i := 0; i < len(g); {
		w := Word{Line: g[i].line, Col: g[i].col}
		begin := i
		switch {
		case is(i, " \t"):
			i++
			continue
		case is(i, ";"):
			for i < len(g) && g[i].r != '\n' {
				if g[i].r < 0 {
					return nil, g[i].line, g[i].col, api.ErrRune
				}
				i++
			}
			continue
		case is(i, "\n"):
			w.Kind = End
			i++
		case is(i, allSigns):
			w.Kind, w.Text = Mark, string(g[i].r)
			i++
		case is(i, allLetters):
			w.Kind = Name
			w.Text, i = span(i, allLetters+digits)
			if i-begin > 16 {
				return nil, w.Line, w.Col, api.ErrLong
			}
		case is(i, digits), is(i, "-") && is(i+1, digits):
			w.Kind = Number
			w.Text, i = span(i+1, digits)
			w.Text = string(g[begin].r) + w.Text
			n, _ := new(big.Int).SetString(w.Text, 10)
			if n.CmpAbs(big.NewInt(1<<40)) > 0 {
				return nil, w.Line, w.Col, api.ErrLong
			}
			if is(i, allLetters) {
				return nil, g[i].line, g[i].col, api.ErrRune
			}
			w.N = int(n.Int64())
		default:
			return nil, w.Line, w.Col, api.ErrRune
		}
		l = append(l, w)
	}
	return l, 0, 0, api.OK
}
