// Package annal: a ledger, and its past: see DOC.md.
package annal

import (
	"slices"
	"strings"

	"annal/api"
	"annal/names"
)

// Book is a ledger.
type Book struct {
	accounts []*account // by their names
	done     []deed     // all that was done, in order
	entries  []entering // of it, what wrote entries: the first one has the number 1
	unlocked int        // the first day that is not locked
}

// New makes a book (P3).
func New() *Book { return &Book{} }

// Open opens an account (P4).
func (b *Book) Open(name string, kind int) api.Errno {
	place, there := b.place(name)
	switch {
	case !names.Right(name):
		return api.ErrName
	case kind != api.Stock && kind != api.Flow:
		return api.ErrKind
	case there:
		return api.ErrThere
	case len(b.accounts) >= api.MaxAccounts:
		return api.ErrMany
	}
	// A name may be a piece of a long text, which a book must not hold on to.
	opened := opening{name: strings.Clone(name), kind: kind}
	b.accounts = slices.Insert(b.accounts, place, &account{opening: opened})
	b.done = append(b.done, opened)
	return api.OK
}

// Post writes an entry (P5).
func (b *Book) Post(day int, lines []api.Line) (int, api.Errno) {
	if refusal := b.refusePost(day, lines); refusal != api.OK {
		return 0, refusal
	}
	return b.enter(b.posted(day, lines)), api.OK
}

// Reverse writes the opposite of an entry (P6).
func (b *Book) Reverse(entry int) (int, api.Errno) {
	if refusal := b.refuseReverse(entry); refusal != api.OK {
		return 0, refusal
	}
	return b.enter(b.reversed(entry)), api.OK
}

// Lock locks all days up to one (P7).
func (b *Book) Lock(day int) api.Errno {
	switch {
	case !isDay(day):
		return api.ErrDay
	case b.isLocked(day):
		return api.ErrLocked
	}
	b.done = append(b.done, locking{dated{day}})
	b.unlocked = day + 1
	return api.OK
}

// Close brings what flowed into a stock (P7).
func (b *Book) Close(day int, into string) (int, api.Errno) {
	stock := b.find(into)
	if refusal := b.refuseClose(day, stock); refusal != api.OK {
		return 0, refusal
	}
	number := b.enter(b.closed(day, stock))
	b.unlocked = day + 1
	return number, api.OK
}

// Balance tells an account's (P8).
func (b *Book) Balance(name string, day int, known int) (int, api.Errno) {
	a := b.find(name)
	if a == nil {
		return 0, api.ErrNone
	}
	if refusal := b.refuseView(known, day); refusal != api.OK {
		return 0, refusal
	}
	return a.past.Balance(day, known), api.OK
}

// Trial tells all balances (P8).
func (b *Book) Trial(day int, known int) ([]api.Line, api.Errno) {
	if refusal := b.refuseView(known, day); refusal != api.OK {
		return nil, refusal
	}
	var trial []api.Line
	for _, a := range b.accounts {
		if balance := a.past.Balance(day, known); balance != 0 {
			trial = append(trial, api.Line{Account: a.name, Amount: balance})
		}
	}
	return trial, api.OK
}

// Items tells what entries say of an account (P8).
func (b *Book) Items(name string, from int, to int, known int) ([]api.Item, api.Errno) {
	a := b.find(name)
	if a == nil {
		return nil, api.ErrNone
	}
	if refusal := b.refuseView(known, from, to); refusal != api.OK {
		return nil, refusal
	}
	return a.past.Items(from, to, known), api.OK
}

// Write tells a book as a text (P9).
func (b *Book) Write() string {
	var text strings.Builder
	for _, d := range b.done {
		text.WriteString(strings.Join(d.words(), " "))
		text.WriteByte('\n')
	}
	return text.String()
}

// Read makes a book of a text (P10).
func Read(text string) (*Book, int, api.Errno) {
	b, number := New(), 0
	for line := range strings.Lines(text) {
		number++
		if refusal := b.redo(line); refusal != api.OK {
			return nil, number, refusal
		}
	}
	return b, 0, api.OK
}
