package mread

import (
	"slices"
	"strconv"
	"strings"

	"intarsia/api"
	"intarsia/word"
)

// form is a line as the chapter's table has it: D, A, B are registers, S a slot, I an Imm, C a Callee, M a Many, T and U where an edge goes; all else is a word of its own.
type form struct {
	op   api.Op
	end  api.TermKind
	text string
}

var forms = []form{
	{op: api.OpConst, text: "D ← const I"}, {op: api.OpAdd, text: "D ← add A B"}, {op: api.OpSub, text: "D ← sub A B"}, {op: api.OpMul, text: "D ← mul A B"},
	{op: api.OpDiv, text: "D ← div A B"}, {op: api.OpAnd, text: "D ← and A B"}, {op: api.OpOr, text: "D ← or A B"}, {op: api.OpXor, text: "D ← xor A B"},
	{op: api.OpLess, text: "D ← less A B"}, {op: api.OpSame, text: "D ← same A B"}, {op: api.OpLoad, text: "D ← load A I"}, {op: api.OpStore, text: "store A I B"},
	{op: api.OpCall, text: "call C M"}, {op: api.OpMove, text: "D ← A"}, {op: api.OpPut, text: "S ← A"}, {op: api.OpGet, text: "D ← S"},
	{end: api.TermJump, text: "→ T"}, {end: api.TermBranch, text: "A → T U"}, {end: api.TermReturn, text: "return A"}, {end: api.TermReturn, text: "return"}, {end: api.TermTrap, text: "trap"},
}

func within(n, least, most int) bool { return least <= n && n <= most }

// plainCan says whether a target can be written: each line by the letters of its form.
func plainCan(t api.Target) bool {
	if !within(t.Frame, 0, 400) || !within(len(t.Blocks), 1, 200) {
		return false
	}
	for _, b := range t.Blocks {
		if len(b.Ins) > 4000 || !plainEnd(b.Term) || slices.ContainsFunc(b.Ins, func(i api.Ins) bool { return !plainIns(i) }) {
			return false
		}
	}
	return true
}

func plainIns(i api.Ins) bool {
	n := slices.IndexFunc(forms, func(x form) bool { return x.op == i.Op && x.op != 0 })
	if n < 0 || len(i.Args) > 0 {
		return false
	}
	has := func(letter string) bool { return slices.Contains(strings.Fields(forms[n].text), letter) }
	fits := func(letter string, n, least, most int) bool {
		return has(letter) && within(n, least, most) || !has(letter) && n == 0
	}
	imm := fits("I", i.Imm, -1<<40, 1<<40)
	if has("S") {
		imm = within(i.Imm, 0, 399)
	}
	return imm && fits("D", i.Dst, 0, 63) && fits("A", i.A, 0, 63) && fits("B", i.B, 0, 63) && fits("C", i.Callee, 0, 99) && fits("M", i.Many, 0, 8)
}

func plainEnd(t api.Term) bool {
	goes := within(t.To[0], 0, 199) && within(t.To[1], 0, 199)
	switch t.Kind {
	case api.TermJump:
		return goes && t.A == 0 && t.To[1] == 0
	case api.TermBranch:
		return goes && within(t.A, 0, 63)
	case api.TermReturn:
		return within(t.A, -1, 63) && t.To[0] == 0 && t.To[1] == 0
	}
	return t.Kind == api.TermTrap && t.A == 0 && t.To[0] == 0 && t.To[1] == 0
}

// plainText is the text of a target that can be written.
func plainText(t api.Target) string {
	l := []string{"target " + strconv.Itoa(t.Frame)}
	for n, b := range t.Blocks {
		l = append(l, "block "+strconv.Itoa(n))
		for _, i := range b.Ins {
			l = append(l, fill(func(x form) bool { return x.op == i.Op }, i, api.Term{}))
		}
		l = append(l, fill(func(x form) bool { return x.end == b.Term.Kind && (b.Term.A != -1 || x.text == "return") }, api.Ins{A: b.Term.A}, b.Term))
	}
	return strings.Join(l, "\n") + "\n"
}

// fill writes the first form that fits.
func fill(fits func(x form) bool, i api.Ins, t api.Term) string {
	l := strings.Fields(forms[slices.IndexFunc(forms, fits)].text)
	for n, token := range l {
		switch token {
		case "D", "A", "B":
			l[n] = "r" + strconv.Itoa(map[string]int{"D": i.Dst, "A": i.A, "B": i.B}[token])
		case "S":
			l[n] = "s" + strconv.Itoa(i.Imm)
		case "I", "C", "M", "T", "U":
			l[n] = strconv.Itoa(map[string]int{"I": i.Imm, "C": i.Callee, "M": i.Many, "T": t.To[0], "U": t.To[1]}[token])
		}
	}
	return strings.Join(l, " ")
}

// plain goes over words, up to the first that may not stand there.
type plain struct {
	l   []word.Word
	at  int
	bad api.Errno
}

// plainParse tries each form at each line, and takes the one that gets furthest.
func plainParse(s string) (t api.Target, line, col int, e api.Errno) {
	if len(s) > 1<<18 {
		return t, 0, 0, api.ErrLong
	}
	l, line, col, e := word.Read(s)
	if e != api.OK {
		return t, line, col, e
	}
	p := &plain{l: counted(l)}
	t = p.target()
	if p.bad == api.OK {
		return t, 0, 0, api.OK
	}
	if p.at < len(p.l) {
		line, col = p.l[p.at].Line, p.l[p.at].Col
	}
	return api.Target{}, line, col, p.bad
}

// counted are a text's words with no more than one end between two others, and none around them all.
func counted(l []word.Word) (out []word.Word) {
	isWord := func(w word.Word) bool { return w.Kind != word.End }
	last := len(l) - 1
	for last >= 0 && !isWord(l[last]) {
		last--
	}
	for i, w := range l[:last+1] {
		if isWord(w) || i > 0 && isWord(l[i-1]) {
			out = append(out, w)
		}
	}
	return out
}

func (p *plain) target() (t api.Target) {
	i, ok := p.take("target F", false)
	t.Frame = i.Frame
	for n := 0; ok && (n == 0 || p.at < len(p.l)); n++ {
		if n == 200 {
			p.bad = api.ErrLong
			break
		}
		var b api.Block
		b, ok = p.block(n)
		t.Blocks = append(t.Blocks, b)
	}
	return t
}

func (p *plain) block(n int) (b api.Block, ok bool) {
	_, ok = p.take("block #"+strconv.Itoa(n), false)
	for ok {
		best, from := *p, p.at
		for _, x := range forms {
			q := &plain{l: p.l, at: from}
			i, fits := q.take(x.text, x.op != 0 && len(b.Ins) == 4000)
			if fits {
				p.at = q.at
				if x.op == 0 {
					b.Term = api.Term{Kind: x.end, A: i.A, To: i.To}
					if x.text == "return" {
						b.Term.A = -1
					}
					return b, true
				}
				i.Op = x.op
				b.Ins = append(b.Ins, i.Ins)
				best.bad = api.OK
				break
			}
			if best.bad == api.OK || q.at > best.at || q.at == best.at && q.bad == api.ErrLong {
				best = *q
			}
		}
		if best.bad != api.OK {
			*p = best
			return b, false
		}
	}
	return b, false
}

// taken is what the letters of a form stand for.
type taken struct {
	api.Ins
	To    [2]int
	Frame int
}

// take goes over a line of that form, and the end behind it; none may stand there, if it is one too many.
func (p *plain) take(text string, tooMany bool) (i taken, ok bool) {
	for _, token := range strings.Fields(text) {
		if p.bad = api.ErrWord; p.at == len(p.l) {
			return i, false
		}
		if p.bad = i.get(token, p.l[p.at]); p.bad != api.OK {
			return i, false
		}
		p.at++
	}
	ends := p.at == len(p.l) || p.l[p.at].Kind == word.End
	if tooMany {
		p.bad = api.ErrLong
	} else if !ends {
		p.bad = api.ErrWord
	} else if p.at < len(p.l) {
		p.at++
	}
	return i, p.bad == api.OK
}

// get takes a word for a token.
func (i *taken) get(token string, w word.Word) (e api.Errno) {
	switch token[:1] {
	case "D":
		i.Dst, e = placeAt(w, regWords)
	case "A":
		i.A, e = placeAt(w, regWords)
	case "B":
		i.B, e = placeAt(w, regWords)
	case "S":
		i.Imm, e = placeAt(w, slotWords)
	case "I":
		i.Imm, e = numberAt(w, -1<<40, 1<<40)
	case "C":
		i.Callee, e = numberAt(w, 0, 99)
	case "M":
		i.Many, e = numberAt(w, 0, 8)
	case "T":
		i.To[0], e = numberAt(w, 0, 199)
	case "U":
		i.To[1], e = numberAt(w, 0, 199)
	case "F":
		i.Frame, e = numberAt(w, 0, 400)
	case "#":
		n, _ := strconv.Atoi(token[1:])
		_, e = numberAt(w, n, n)
	default:
		if w.Text != token {
			e = api.ErrWord
		}
	}
	return e
}

// regWords, slotWords are the places by their words.
var regWords, slotWords = placeWords("r", 64), placeWords("s", 400)

func placeWords(letter string, many int) map[string]int {
	m := map[string]int{}
	for n := range many {
		m[letter+strconv.Itoa(n)] = n
	}
	return m
}

func placeAt(w word.Word, words map[string]int) (int, api.Errno) {
	if n, ok := words[w.Text]; ok {
		return n, api.OK
	}
	return 0, api.ErrWord
}

func numberAt(w word.Word, least, most int) (int, api.Errno) {
	if w.Kind != word.Number {
		return 0, api.ErrWord
	} else if !within(w.N, least, most) {
		return 0, api.ErrLong
	}
	return w.N, api.OK
}

// texts tells do all rows of at most so many parts, one behind the other.
func texts(parts []string, most int, do func(s string)) {
	var grow func(s string, more int)
	grow = func(s string, more int) {
		do(s)
		if more == 0 {
			return
		}
		for _, p := range parts {
			grow(s+p, more-1)
		}
	}
	grow("", most)
}
