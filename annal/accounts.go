package annal

import (
	"cmp"
	"slices"

	"annal/history"
)

type account struct {
	opening
	past history.History
}

// place is where an account of this name stands, or would stand.
func (b *Book) place(name string) (int, bool) {
	return slices.BinarySearchFunc(b.accounts, name, func(a *account, name string) int {
		return cmp.Compare(a.name, name)
	})
}

// find is the account of this name, or nil.
func (b *Book) find(name string) *account {
	place, there := b.place(name)
	if !there {
		return nil
	}
	return b.accounts[place]
}
