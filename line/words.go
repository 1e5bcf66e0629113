package line

import (
	"intarsia/word"
)

// What a word has: of which sort it is, its type tells.
type (
	name   string
	number int
	sign   string
	end    struct{}
)

// place is where a word begins; of no word, 0, 0.
type place struct{ line, col int }

// item is a word; where there is none, it has nothing.
type item struct {
	has any
	place
}

func (i item) asName() (string, bool) {
	n, ok := i.has.(name)
	return string(n), ok
}

func (i item) asNumber() (int, bool) {
	n, ok := i.has.(number)
	return int(n), ok
}

func (i item) isSign(s string) bool {
	n, ok := i.has.(sign)
	return ok && string(n) == s
}

func (i item) isEnd() bool {
	_, ok := i.has.(end)
	return ok
}

// words are those that are not gone over yet.
type words struct {
	left []item
}

// next is the next word, if there is one.
func (w *words) next() item {
	if len(w.left) == 0 {
		return item{}
	}
	return w.left[0]
}

// pass goes over the next word.
func (w *words) pass() {
	w.left = w.left[1:]
}

// wordsOf are a text's words, without the ends that a cursor does not have.
func wordsOf(l []word.Word) (w words) {
	var between item
	for _, x := range l {
		i := item{held(x), place{x.Line, x.Col}}
		if i.isEnd() {
			if between.has == nil {
				between = i
			}
			continue
		}
		// An end counts only once a word is known on either side of it.
		if between.has != nil && len(w.left) > 0 {
			w.left = append(w.left, between)
		}
		w.left = append(w.left, i)
		between = item{}
	}
	return w
}

func held(w word.Word) any {
	switch w.Kind {
	case word.Name:
		return name(w.Text)
	case word.Number:
		return number(w.N)
	case word.Mark:
		return sign(w.Text)
	}
	return end{}
}
