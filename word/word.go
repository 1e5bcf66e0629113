// Package word is layer 1: words out of letters. See shared/doc/01-word.md.
package word

import (
	"strconv"
	"strings"
	"unicode/utf8"

	"intarsia/api"
)

// Kind is what a word is.
type Kind int

// Words.
const (
	Name Kind = iota + 1
	Number
	Mark
	End
)

// Word is a word of a text.
type Word struct {
	Kind      Kind
	Text      string
	N         int
	Line, Col int
}

// Letter says whether a rune is one.
func Letter(r rune) bool {
	return 'a' <= r && r <= 'z' || 'α' <= r && r <= 'ω' || r == '_'
}

// Sign says whether a rune is one.
func Sign(r rune) bool {
	switch r {
	case '=', ',', ':', '(', ')', '[', ']', '+', '→', '←', '·':
		return true
	}
	return false
}

func isDigit(r rune) bool {
	return '0' <= r && r <= '9'
}

// IsName says whether a text is a name.
func IsName(s string) bool {
	many := 0
	for _, r := range s {
		fits := Letter(r) || many > 0 && isDigit(r)
		if !fits || many == api.MaxName {
			return false
		}
		many++
	}
	return many > 0
}

// Read are a text's words; or where there is an error, and which.
func Read(s string) (l []Word, line, col int, e api.Errno) {
	// The words' texts are cut out of a copy, as they may share nothing with s.
	t := reader{place: place{line: 1, col: 1}, source: strings.Clone(s)}
	for at, r := range t.source {
		t.take(at, r)
		if t.fault != api.OK {
			return nil, t.bad.line, t.bad.col, t.fault
		}
		t.pass(r)
	}
	t.shut(len(t.source))
	return t.words, 0, 0, api.OK
}

// Show is words as a text.
func Show(l ...Word) (string, api.Errno) {
	var out strings.Builder
	inLine := false
	for _, w := range l {
		if !canBe(w) {
			return "", api.ErrArg
		}
		if w.Kind == End {
			out.WriteByte('\n')
			inLine = false
			continue
		}
		if inLine {
			out.WriteByte(' ')
		}
		out.WriteString(w.Text)
		inLine = true
	}
	return out.String(), api.OK
}

// canBe says whether a word is one that Read could tell, wherever it stands.
func canBe(w Word) bool {
	switch w.Kind {
	case Name:
		return w.N == 0 && IsName(w.Text)
	case Number:
		return inBounds(w.N) && w.Text == strconv.Itoa(w.N)
	case Mark:
		return w.N == 0 && isSign(w.Text)
	case End:
		return w.N == 0 && w.Text == ""
	}
	return false
}

func isSign(s string) bool {
	r, size := utf8.DecodeRuneInString(s)
	return size == len(s) && Sign(r)
}

func inBounds(n int) bool {
	return -api.MaxImm <= n && n <= api.MaxImm
}
