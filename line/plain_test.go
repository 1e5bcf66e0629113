package line

import (
	"slices"
	"strings"

	"intarsia/api"
	"intarsia/word"
)

// texts tells do all texts of at most so many parts.
func texts(parts []string, most int, do func(s string)) {
	var grow func(s string, more int)
	grow = func(s string, more int) {
		do(s)
		if more == 0 {
			return
		}
		for _, p := range parts {
			grow(s+p, more-1)
		}
	}
	grow("", most)
}

// counted are the words that a cursor has of a text's: an end only right behind another word, and only if one that is no end comes later.
func counted(l []word.Word) (out []word.Word) {
	isWord := func(w word.Word) bool { return w.Kind != word.End }
	for i, w := range l {
		if isWord(w) || i > 0 && isWord(l[i-1]) && slices.ContainsFunc(l[i:], isWord) {
			out = append(out, w)
		}
	}
	return out
}

// plain is a cursor told as the chapter does, of words and of where it stands.
type plain struct {
	l         []word.Word
	i         int
	broken    bool
	line, col int
	e         api.Errno
}

func plainOver(s string) *plain {
	l, line, col, e := word.Read(s)
	return &plain{counted(l), 0, e != api.OK, line, col, e}
}

// seen is what a cursor tells without a change of it.
type seen struct {
	more, ends bool
	peek       string
	line, col  int
	e          api.Errno
}

func see(c *Cursor) (s seen) {
	s.line, s.col, s.e = c.Err()
	s.more, s.ends, s.peek = c.More(), c.Ends(), c.Peek()
	return s
}

func (p *plain) see() seen {
	if p.broken {
		return seen{false, true, "", p.line, p.col, p.e}
	}
	if p.i == len(p.l) {
		return seen{false, true, "", 0, 0, api.OK}
	}
	w := p.l[p.i]
	s := seen{true, w.Kind == word.End, "", w.Line, w.Col, api.ErrWord}
	if w.Kind == word.Name {
		s.peek = w.Text
	}
	return s
}

// stands says whether it stands at a word of that kind and, if a text is given, of that text.
func (p *plain) stands(k word.Kind, text ...string) bool {
	return !p.broken && p.i < len(p.l) && p.l[p.i].Kind == k && (text == nil || p.l[p.i].Text == text[0])
}

func (p *plain) fail(e api.Errno) {
	if p.broken || e == api.OK {
		return
	}
	p.broken, p.e = true, e
	if p.i < len(p.l) {
		p.line, p.col = p.l[p.i].Line, p.l[p.i].Col
	}
}

// got is what a call answers: of each kind of answer one.
type got struct {
	b bool
	s string
	n int
}

// deed is a call of a cursor, and what a plain one does for it.
type deed struct {
	name  string
	real  func(c *Cursor) got
	plain func(p *plain) got
}

func key(s string) deed {
	return deed{"Key " + s, func(c *Cursor) got { return got{b: c.Key(s)} }, func(p *plain) got {
		if !p.stands(word.Name, s) {
			return got{}
		}
		p.i++
		return got{b: true}
	}}
}

func is(s string) deed {
	return deed{"Is " + s, func(c *Cursor) got { return got{b: c.Is(s)} }, func(p *plain) got {
		if !p.stands(word.Mark, s) {
			return got{}
		}
		p.i++
		return got{b: true}
	}}
}

func getName() deed {
	return deed{"Name", func(c *Cursor) got { return got{s: c.Name()} }, func(p *plain) got {
		if !p.stands(word.Name) {
			p.fail(api.ErrWord)
			return got{}
		}
		p.i++
		return got{s: p.l[p.i-1].Text}
	}}
}

func getNum(least, most int) deed {
	return deed{"Num", func(c *Cursor) got { return got{n: c.Num(least, most)} }, func(p *plain) got {
		if !p.stands(word.Number) {
			p.fail(api.ErrWord)
			return got{}
		}
		if n := p.l[p.i].N; n < least || n > most {
			p.fail(api.ErrLong)
			return got{}
		}
		p.i++
		return got{n: p.l[p.i-1].N}
	}}
}

func marks(signs ...string) deed {
	return deed{"Mark " + strings.Join(signs, " "), func(c *Cursor) got { c.Mark(signs...); return got{} }, func(p *plain) got {
		for _, s := range signs {
			if !p.stands(word.Mark, s) {
				p.fail(api.ErrWord)
				break
			}
			p.i++
		}
		return got{}
	}}
}

func getEnd() deed {
	return deed{"End", func(c *Cursor) got { c.End(); return got{} }, func(p *plain) got {
		if p.stands(word.End) {
			p.i++
		} else if p.i < len(p.l) {
			p.fail(api.ErrWord)
		}
		return got{}
	}}
}

func failing(e api.Errno) deed {
	return deed{"Fail", func(c *Cursor) got { c.Fail(e); return got{} }, func(p *plain) got { p.fail(e); return got{} }}
}
