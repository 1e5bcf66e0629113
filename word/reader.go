package word

import (
	"strings"
	"unicode/utf8"

	"intarsia/api"
)

// place is where a rune stands.
type place struct{ line, col int }

// pass goes behind a rune.
func (p *place) pass(r rune) {
	p.col++
	if r == '\n' {
		p.line, p.col = p.line+1, 1
	}
}

// draft is the word that is being read; of no Kind, there is none.
type draft struct {
	Word
	from  int // the byte at which it begins
	many  int // how many letters and digits a name has so far
	below bool
}

// grows says whether a draft can be that has a letter, a digit more.
func (d *draft) grows(r rune) bool {
	if d.Kind == Name {
		d.many++
		return d.many <= api.MaxName
	}
	digit := int(r - '0')
	if d.below {
		digit = -digit
	}
	// N is held against its bounds digit by digit, so it can't wrap round.
	d.N = d.N*10 + digit
	return inBounds(d.N)
}

// reader goes through a text, rune by rune, up to the first fault.
type reader struct {
	place
	draft
	source string
	words  []Word
	remark bool // it stands in one
	bad    place
	fault  api.Errno
}

// use is what a rune is for.
type use int

const (
	forNothing use = iota
	forEnd
	forRemark
	forBlank
	forSign
	forMinus
	forLetter
	forDigit
)

// use tells what the rune at a byte of the source is for.
func (t *reader) use(at int, r rune) use {
	switch {
	case r == utf8.RuneError && !strings.HasPrefix(t.source[at:], string(utf8.RuneError)):
		return forNothing // bytes that are no rune may not stand in a remark either
	case r == '\n':
		return forEnd
	case t.remark, r == ' ', r == '\t':
		return forBlank
	case r == ';':
		return forRemark
	case Sign(r):
		return forSign
	case r == '-' && t.digitBehind(at):
		return forMinus
	case Letter(r):
		return forLetter
	case isDigit(r):
		return forDigit
	}
	return forNothing
}

// digitBehind says whether a digit is right behind a minus.
func (t *reader) digitBehind(at int) bool {
	next := at + len("-")
	return next < len(t.source) && isDigit(rune(t.source[next]))
}

// take takes the rune at a byte of the source.
func (t *reader) take(at int, r rune) {
	switch t.use(at, r) {
	case forEnd:
		t.begin(End, at)
		t.remark = false
	case forRemark:
		t.remark = true
		fallthrough // ahead of a remark a word is shut, as ahead of a blank
	case forBlank:
		t.shut(at)
	case forSign:
		t.begin(Mark, at)
	case forMinus:
		t.begin(Number, at)
		t.below = true
	case forDigit:
		t.spell(Number, at, r)
	case forLetter:
		if t.Kind != Number {
			t.spell(Name, at, r)
			break
		}
		fallthrough // right behind digits a letter is for nothing
	default:
		t.fail(t.place, api.ErrRune)
	}
}

// begin begins a word of that kind, where the reader stands.
func (t *reader) begin(k Kind, at int) {
	t.shut(at)
	t.draft = draft{Word: Word{Kind: k, Line: t.line, Col: t.col}, from: at}
}

// spell goes on with a name, a number; where there is none, it begins one of that kind.
func (t *reader) spell(k Kind, at int, r rune) {
	if t.Kind != Name && t.Kind != Number {
		t.begin(k, at)
	}
	if !t.grows(r) {
		t.fail(place{line: t.Line, col: t.Col}, api.ErrLong)
	}
}

// shut ends the draft, if there is one, ahead of a byte of the source.
func (t *reader) shut(at int) {
	if t.Kind == 0 {
		return
	}
	if t.Kind != End {
		t.Text = t.source[t.from:at]
	}
	t.words = append(t.words, t.Word)
	t.draft = draft{}
}

func (t *reader) fail(p place, e api.Errno) {
	t.bad, t.fault = p, e
}
