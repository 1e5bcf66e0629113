package read

import (
	"slices"
	"strconv"
	"strings"

	"intarsia/api"
	"intarsia/word"
)

// form is a line as the chapter's table has it: D, A, B are variables, * variables up to eight, I an Imm, C a Callee, T and U where an edge goes; all else is a word of its own.
type form struct {
	op   api.Op
	end  api.TermKind
	text string
}

var forms = []form{
	{op: api.OpConst, text: "D ← const I"}, {op: api.OpAdd, text: "D ← add A B"}, {op: api.OpSub, text: "D ← sub A B"}, {op: api.OpMul, text: "D ← mul A B"},
	{op: api.OpDiv, text: "D ← div A B"}, {op: api.OpAnd, text: "D ← and A B"}, {op: api.OpOr, text: "D ← or A B"}, {op: api.OpXor, text: "D ← xor A B"},
	{op: api.OpLess, text: "D ← less A B"}, {op: api.OpSame, text: "D ← same A B"}, {op: api.OpLoad, text: "D ← load A I"}, {op: api.OpStore, text: "store A I B"},
	{op: api.OpCall, text: "D ← call C *"}, {op: api.OpCall, text: "call C *"}, {op: api.OpCopy, text: "D ← A"},
	{end: api.TermJump, text: "→ T"}, {end: api.TermBranch, text: "A → T U"}, {end: api.TermReturn, text: "return A"}, {end: api.TermReturn, text: "return"}, {end: api.TermTrap, text: "trap"},
}

// plainText is the text of a function that can be written.
func plainText(f api.Func) string {
	l := []string{strings.TrimSpace("fun " + list(f.Params))}
	for n, b := range f.Blocks {
		l = append(l, "block "+strconv.Itoa(n))
		for _, i := range b.Ins {
			l = append(l, fill(func(x form) bool { return x.op == i.Op && strings.Contains(x.text, "D") == (i.Dst != 0) }, i, api.Term{}))
		}
		l = append(l, fill(func(x form) bool { return x.end == b.Term.Kind && strings.Contains(x.text, "A") == (b.Term.A != 0) }, api.Ins{A: b.Term.A}, b.Term))
	}
	return strings.Join(l, "\n") + "\n"
}

func list(vars []int) string {
	var l []string
	for _, v := range vars {
		l = append(l, "v"+strconv.Itoa(v))
	}
	return strings.Join(l, " ")
}

// fill writes the first form that fits.
func fill(fits func(x form) bool, i api.Ins, t api.Term) string {
	x := forms[slices.IndexFunc(forms, fits)]
	var l []string
	for _, token := range strings.Fields(x.text) {
		switch token {
		case "D", "A", "B":
			token = list([]int{map[string]int{"D": i.Dst, "A": i.A, "B": i.B}[token]})
		case "I", "C", "T", "U":
			token = strconv.Itoa(map[string]int{"I": i.Imm, "C": i.Callee, "T": t.To[0], "U": t.To[1]}[token])
		case "*":
			token = list(i.Args)
		}
		if token != "" {
			l = append(l, token)
		}
	}
	return strings.Join(l, " ")
}

// plain goes over words, up to the first that may not stand there.
type plain struct {
	l   []word.Word
	at  int
	bad api.Errno
}

// plainParse tries each form at each line, and takes the one that gets furthest.
func plainParse(s string) (f api.Func, line, col int, e api.Errno) {
	if len(s) > 1<<18 {
		return f, 0, 0, api.ErrLong
	}
	l, line, col, e := word.Read(s)
	if e != api.OK {
		return f, line, col, e
	}
	p := &plain{l: counted(l)}
	f = p.function()
	if p.bad == api.OK {
		return f, 0, 0, api.OK
	}
	if p.at < len(p.l) {
		line, col = p.l[p.at].Line, p.l[p.at].Col
	}
	return api.Func{}, line, col, p.bad
}

// counted are a text's words with no more than one end between two others, and none around them all.
func counted(l []word.Word) (out []word.Word) {
	isWord := func(w word.Word) bool { return w.Kind != word.End }
	for i, w := range l {
		if isWord(w) || i > 0 && isWord(l[i-1]) && slices.ContainsFunc(l[i:], isWord) {
			out = append(out, w)
		}
	}
	return out
}

func (p *plain) function() (f api.Func) {
	i, ok := p.take("fun *", false)
	f.Params = i.Args
	for n, v := range f.Params {
		if first := slices.Index(f.Params, v); first < n {
			p.bad, p.at = api.ErrWord, slices.IndexFunc(p.l, func(w word.Word) bool { return w.Text == "fun" })+1+n
			return f
		}
	}
	for n := 0; ok && (n == 0 || p.at < len(p.l)); n++ {
		if n == 64 {
			p.bad = api.ErrLong
			break
		}
		var b api.Block
		b, ok = p.block(n)
		f.Blocks = append(f.Blocks, b)
	}
	return f
}

func (p *plain) block(n int) (b api.Block, ok bool) {
	_, ok = p.take("block #"+strconv.Itoa(n), false)
	for ok {
		best, from := *p, p.at
		for _, x := range forms {
			q := &plain{l: p.l, at: from}
			i, fits := q.take(x.text, x.op != 0 && len(b.Ins) == 64)
			if fits {
				p.at = q.at
				if x.op != 0 {
					i.Op = x.op
					i.To = [2]int{}
					b.Ins = append(b.Ins, i.Ins)
				} else {
					b.Term = api.Term{Kind: x.end, A: i.A, To: i.To}
					return b, true
				}
				best.bad = api.OK
				break
			}
			if best.bad == api.OK || q.at > best.at || q.at == best.at && q.bad == api.ErrLong {
				best = *q
			}
		}
		if best.bad != api.OK {
			*p = best
			return b, false
		}
	}
	return b, false
}

// taken is what the letters of a form stand for.
type taken struct {
	api.Ins
	To [2]int
}

// take goes over a line of that form, and the end behind it; none may stand there, if it is one too many.
func (p *plain) take(text string, tooMany bool) (i taken, ok bool) {
	for _, token := range strings.Fields(text) {
		for many := 0; token == "*" && !p.ends(); many++ {
			v, bad := variableAt(p.l[p.at])
			if many == 8 {
				bad = api.ErrLong
			}
			if p.bad = bad; bad != api.OK {
				return i, false
			}
			i.Args = append(i.Args, v)
			p.at++
		}
		if token == "*" {
			continue
		}
		if p.bad = api.ErrWord; p.at == len(p.l) {
			return i, false
		}
		if p.bad = i.get(token, p.l[p.at]); p.bad != api.OK {
			return i, false
		}
		p.at++
	}
	if tooMany {
		p.bad = api.ErrLong
	} else if !p.ends() {
		p.bad = api.ErrWord
	} else if p.at < len(p.l) {
		p.at++
	}
	return i, p.bad == api.OK
}

func (p *plain) ends() bool { return p.at == len(p.l) || p.l[p.at].Kind == word.End }

// get takes a word for a token.
func (i *taken) get(token string, w word.Word) (e api.Errno) {
	switch token[:1] {
	case "D":
		i.Dst, e = variableAt(w)
	case "A":
		i.A, e = variableAt(w)
	case "B":
		i.B, e = variableAt(w)
	case "I":
		i.Imm, e = numberAt(w, -1<<40, 1<<40)
	case "C":
		i.Callee, e = numberAt(w, 0, 99)
	case "T":
		i.To[0], e = numberAt(w, 0, 63)
	case "U":
		i.To[1], e = numberAt(w, 0, 63)
	case "#":
		n, _ := strconv.Atoi(token[1:])
		_, e = numberAt(w, n, n)
	default:
		if w.Text != token {
			e = api.ErrWord
		}
	}
	return e
}

// numbered are the variables by their words.
var numbered = func() map[string]int {
	m := map[string]int{}
	for v := 1; v <= 200; v++ {
		m["v"+strconv.Itoa(v)] = v
	}
	return m
}()

func variableAt(w word.Word) (int, api.Errno) {
	if v, ok := numbered[w.Text]; ok {
		return v, api.OK
	}
	return 0, api.ErrWord
}

func numberAt(w word.Word, least, most int) (int, api.Errno) {
	if w.Kind != word.Number {
		return 0, api.ErrWord
	} else if w.N < least || w.N > most {
		return 0, api.ErrLong
	}
	return w.N, api.OK
}

// texts tells do all rows of at most so many parts, one behind the other.
func texts(parts []string, most int, do func(s string)) {
	var grow func(s string, more int)
	grow = func(s string, more int) {
		do(s)
		if more == 0 {
			return
		}
		for _, p := range parts {
			grow(s+p, more-1)
		}
	}
	grow("", most)
}
