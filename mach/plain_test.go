package mach

import (
	"fmt"
	"slices"
	"strconv"
	"strings"

	"intarsia/api"
	"intarsia/word"
)

// plainRight goes through the chapter's sentence, part by part.
func plainRight(m api.Machine) bool {
	if m.Regs < 1 || m.Regs > 64 || len(m.Args) > 8 || len(m.Saved) > m.Regs {
		return false
	}
	isReg := func(n int) bool { return slices.Contains(upTo(m.Regs), n) }
	for n, a := range m.Args {
		if !isReg(a) || slices.Index(m.Args, a) != n {
			return false
		}
	}
	for n, s := range m.Saved {
		if !isReg(s) || n > 0 && s <= m.Saved[n-1] {
			return false
		}
	}
	return isReg(m.Ret) && !slices.Contains(m.Saved, m.Ret)
}

// plainSaved asks nothing but Saved.
func plainSaved(m api.Machine, reg int) (is bool) {
	for _, s := range m.Saved {
		is = is || s == reg
	}
	return is
}

func plainLost(m api.Machine) (l []int) {
	if plainRight(m) {
		l = slices.DeleteFunc(upTo(m.Regs), func(n int) bool { return slices.Contains(m.Saved, n) })
	}
	return l
}

func plainKeeps(m api.Machine) (l []api.Fact) {
	for n := 0; plainRight(m) && n < len(m.Saved); n++ {
		l = append(l, api.Fact{Var: -m.Saved[n] - 1, At: api.Loc{Slot: false, N: m.Saved[n]}})
	}
	return l
}

func plainText(m api.Machine) string {
	list := func(l []int) string { return strings.Trim(fmt.Sprint(l), "[]") }
	s := fmt.Sprintf("machine %d args %s ret %d saved %s", m.Regs, list(m.Args), m.Ret, list(m.Saved))
	return strings.TrimSpace(strings.ReplaceAll(s, "  ", " ")) + "\n"
}

// plainParse writes a text's words anew, all numbers alike, and holds them against what a text must be.
func plainParse(s string) (m api.Machine, e api.Errno) {
	if len(s) > 1<<18 {
		return m, api.ErrLong
	}
	l, _, _, e := word.Read(s)
	if e != api.OK {
		return m, e
	}
	isEnd := func(w word.Word) bool { return w.Kind == word.End }
	for len(l) > 0 && isEnd(l[0]) {
		l = l[1:]
	}
	for len(l) > 0 && isEnd(l[len(l)-1]) {
		l = l[:len(l)-1]
	}
	// What may come next, by what is there already.
	next := map[string][]string{
		"": {"machine"}, "machine": {"#"}, "machine#": {"args"}, "args": {"#", "ret"}, "args#": {"#", "ret"},
		"ret": {"#"}, "ret#": {"saved"}, "saved": {"#"}, "saved#": {"#"},
	}
	key, at := "", ""
	for _, w := range l {
		token := w.Text
		if w.Kind == word.Number {
			token = "#"
		}
		if isEnd(w) || !slices.Contains(next[at], token) {
			return api.Machine{}, api.ErrWord
		}
		if token != "#" {
			key, at = token, token
			continue
		}
		if w.N < 0 || w.N > 64 {
			return api.Machine{}, api.ErrLong
		}
		at = key + "#"
		switch key {
		case "machine":
			m.Regs = w.N
		case "args":
			m.Args = append(m.Args, w.N)
		case "ret":
			m.Ret = w.N
		case "saved":
			m.Saved = append(m.Saved, w.N)
		}
	}
	if key != "saved" {
		return api.Machine{}, api.ErrWord
	}
	if !plainRight(m) {
		return api.Machine{}, api.ErrArg
	}
	return m, api.OK
}

// upTo are so many registers, from 0 on.
func upTo(many int) (l []int) {
	for n := range many {
		l = append(l, n)
	}
	return l
}

// numbered is register numbers as a text, each behind a space.
func numbered(regs ...int) (s string) {
	for _, n := range regs {
		s += " " + strconv.Itoa(n)
	}
	return s
}

// rows are all rows of at most so many numbers out of some.
func rows(numbers []int, most int) [][]int {
	l := [][]int{nil}
	for from := 0; most > 0; most-- {
		to := len(l)
		for _, row := range l[from:to] {
			for _, n := range numbers {
				l = append(l, append(slices.Clone(row), n))
			}
		}
		from = to
	}
	return l
}

// texts tells do all rows of at most so many parts, one behind the other.
func texts(parts []string, most int, do func(s string)) {
	var grow func(s string, more int)
	grow = func(s string, more int) {
		do(s)
		if more == 0 {
			return
		}
		for _, p := range parts {
			grow(s+p, more-1)
		}
	}
	grow("", most)
}
