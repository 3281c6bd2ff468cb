package annal_test

import (
	"fmt"
	"regexp"
	"strconv"
	"strings"

	"annal/api"
)

// note tells a deed of a plain book in its text.
func (p *plain) note(form string, words ...any) {
	p.text += fmt.Sprintf(form+"\n", words...)
}

func wordsOf(lines []api.Line) string {
	words := ""
	for _, line := range lines {
		words += fmt.Sprintf(" %s %d", line.Account, line.Amount)
	}
	return words
}

// The forms of a line, as the document has them.
const (
	nameForm   = `([^\x00-\x20\x7f-\x{a0}\x{fffd}]{1,12})`
	numberForm = `(0|-?[1-9][0-9]{0,9})`
)

var (
	openForm    = regexp.MustCompile(`^o ` + nameForm + ` ` + numberForm + `\n$`)
	postForm    = regexp.MustCompile(`^p ` + numberForm + `((?: ` + nameForm + ` ` + numberForm + `)*)\n$`)
	reverseForm = regexp.MustCompile(`^r ` + numberForm + `\n$`)
	lockForm    = regexp.MustCompile(`^l ` + numberForm + `\n$`)
	closeForm   = regexp.MustCompile(`^c ` + numberForm + ` ` + nameForm + `\n$`)
)

// plainRead is Read of a plain book.
func plainRead(text string) (*plain, int, api.Errno) {
	p := newPlain()
	for i, line := range strings.SplitAfter(text, "\n") {
		if line == "" {
			break // SplitAfter gives one behind the last byte 10
		}
		if errno := p.redo(line); errno != api.OK {
			return nil, i + 1, errno
		}
	}
	return p, 0, api.OK
}

func (p *plain) redo(line string) (errno api.Errno) {
	if w := openForm.FindStringSubmatch(line); w != nil {
		return p.open(w[1], plainNumber(w[2]), true)
	}
	if w := postForm.FindStringSubmatch(line); w != nil {
		_, errno = p.post(plainNumber(w[1]), plainLines(w[2]))
		return errno
	}
	if w := reverseForm.FindStringSubmatch(line); w != nil {
		_, errno = p.reverse(plainNumber(w[1]))
		return errno
	}
	if w := lockForm.FindStringSubmatch(line); w != nil {
		return p.lock(plainNumber(w[1]))
	}
	if w := closeForm.FindStringSubmatch(line); w != nil {
		_, errno = p.close(plainNumber(w[1]), w[2])
		return errno
	}
	return api.ErrText
}

func plainNumber(word string) int {
	n, err := strconv.Atoi(word)
	if err != nil {
		panic(err)
	}
	return n
}

// plainLines are of accounts and amounts by turns, a blank ahead of each.
func plainLines(text string) []api.Line {
	var lines []api.Line
	words := strings.Split(text, " ")[1:]
	for i := 0; i < len(words); i += 2 {
		lines = append(lines, api.Line{Account: words[i], Amount: plainNumber(words[i+1])})
	}
	return lines
}
