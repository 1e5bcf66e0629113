package mach

import (
	"strconv"
	"strings"

	"intarsia/api"
	"intarsia/line"
)

// The names in a machine's text.
const (
	keyMachine = "machine"
	keyArgs    = "args"
	keyRet     = "ret"
	keySaved   = "saved"
)

// textOf is the text of a right machine.
func textOf(m api.Machine) string {
	return strings.Join([]string{
		part(keyMachine, m.Regs), part(keyArgs, m.Args...), part(keyRet, m.Ret), part(keySaved, m.Saved...),
	}, " ") + "\n"
}

// part is a name, and numbers behind it.
func part(name string, numbers ...int) string {
	l := []string{name}
	for _, n := range numbers {
		l = append(l, strconv.Itoa(n))
	}
	return strings.Join(l, " ")
}

// reader gets a machine's parts, one behind the other. What it gets once its cursor is broken counts for nothing.
type reader struct {
	*line.Cursor
}

func (r *reader) machine() (m api.Machine) {
	r.key(keyMachine)
	m.Regs = r.number()
	r.key(keyArgs)
	m.Args = r.numbers()
	r.key(keyRet)
	m.Ret = r.number()
	r.key(keySaved)
	m.Saved = r.numbers()
	r.End()
	return m
}

func (r *reader) key(name string) {
	if !r.Key(name) {
		r.Fail(api.ErrWord)
	}
}

func (r *reader) number() int { return r.Num(0, api.MaxRegs) }

// numbers gets all words up to the next name, or the line's end: a sign among them breaks it, which ends them too.
func (r *reader) numbers() (l []int) {
	for !r.Ends() && r.Peek() == "" {
		l = append(l, r.number())
	}
	return l
}
