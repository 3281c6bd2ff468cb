package annal

import (
	"strconv"
	"strings"

	"annal/api"
	"annal/words"
)

// The words that lines of the text begin with.
const (
	wordOpen    = "o"
	wordPost    = "p"
	wordReverse = "r"
	wordLock    = "l"
	wordClose   = "c"
)

func (o opening) words() []string {
	return []string{wordOpen, o.name, strconv.Itoa(o.kind)}
}

func (p posting) words() []string {
	told := []string{wordPost, p.dayWord()}
	for _, line := range p.lines {
		told = append(told, line.Account, strconv.Itoa(line.Amount))
	}
	return told
}

func (r reversal) words() []string {
	return []string{wordReverse, strconv.Itoa(r.undone)}
}

func (l locking) words() []string {
	return []string{wordLock, l.dayWord()}
}

func (c closing) words() []string {
	return []string{wordClose, c.dayWord(), c.into}
}

// redo does what a line tells, which has its byte 10 if it is whole.
func (b *Book) redo(text string) api.Errno {
	whole, ended := strings.CutSuffix(text, "\n")
	if !ended {
		return api.ErrText
	}
	line := words.Of(whole)
	switch line.Word() {
	case wordOpen:
		if name, kind := line.Name(), line.Number(); line.Right() {
			return b.Open(name, kind)
		}
	case wordPost:
		if day, lines := line.Number(), pairs(line); line.Right() {
			_, refusal := b.Post(day, lines)
			return refusal
		}
	case wordReverse:
		if entry := line.Number(); line.Right() {
			_, refusal := b.Reverse(entry)
			return refusal
		}
	case wordLock:
		if day := line.Number(); line.Right() {
			return b.Lock(day)
		}
	case wordClose:
		if day, into := line.Number(), line.Name(); line.Right() {
			_, refusal := b.Close(day, into)
			return refusal
		}
	}
	return api.ErrText
}

// pairs takes the rest of a line as accounts and amounts by turns.
func pairs(line *words.Line) []api.Line {
	var lines []api.Line
	for line.More() {
		account, amount := line.Name(), line.Number()
		lines = append(lines, api.Line{Account: account, Amount: amount})
	}
	return lines
}
