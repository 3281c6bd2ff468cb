// Package words takes a line of a text apart, word by word.
package words

import (
	"strconv"
	"strings"

	"annal/names"
)

// mostDigits is how many digits a number may have.
const mostDigits = 10

// Line is a line whose words are taken from the front. Once a word is not what
// it was taken for, the line stays wrong, so that it is enough to ask at its end.
type Line struct {
	rest  string
	more  bool // there is a word: the rest, if empty, is an empty one
	wrong bool
}

// Of is a line of which no word is taken yet.
func Of(line string) *Line { return &Line{rest: line, more: true} }

// More tells whether there is a word to take. A wrong line has none, as nothing
// more can be learnt of it.
func (l *Line) More() bool { return l.more && !l.wrong }

// Right tells whether each word was what it was taken for, and all are taken.
func (l *Line) Right() bool { return !l.more && !l.wrong }

// Word takes the next word, whatever it is; it may be empty.
func (l *Line) Word() string {
	l.demand(l.more)
	var word string
	word, l.rest, l.more = strings.Cut(l.rest, " ")
	return word
}

// Name takes the next word as a name.
func (l *Line) Name() string {
	word := l.Word()
	l.demand(names.Right(word))
	return word
}

// Number takes the next word as a number.
func (l *Line) Number() int {
	n, right := number(l.Word())
	l.demand(right)
	return n
}

func (l *Line) demand(right bool) { l.wrong = l.wrong || !right }

// number takes only what would be written for it, so that a text has one form.
func number(word string) (int, bool) {
	if len(strings.TrimPrefix(word, "-")) > mostDigits {
		return 0, false
	}
	n, err := strconv.Atoi(word)
	return n, err == nil && strconv.Itoa(n) == word
}
