package annal

import (
	"cmp"
	"slices"

	"annal/api"
	"annal/history"
)

type account struct {
	name string
	kind int
	past history.History
}

// place is where an account of this name stands, or would stand.
func (b *Book) place(name string) (int, bool) {
	return slices.BinarySearchFunc(b.accounts, name, func(a *account, name string) int {
		return cmp.Compare(a.name, name)
	})
}

// find is the account of this name, or nil.
func (b *Book) find(name string) *account {
	place, there := b.place(name)
	if !there {
		return nil
	}
	return b.accounts[place]
}

// enter writes an entry whose accounts are all there, and answers its number.
func (b *Book) enter(day int, lines []api.Line) int {
	b.entries++
	for _, line := range lines {
		b.find(line.Account).past.Add(api.Item{Entry: b.entries, Day: day, Amount: line.Amount})
	}
	return b.entries
}
