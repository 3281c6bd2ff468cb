// Package history keeps what is known of one account, so that its balance can
// be told on any day, as it was known by any number of entries.
package history

import (
	"cmp"
	"iter"
	"slices"
	"sort"

	"annal/api"
)

// History is what entries have for one account. The k-th block (from 1) ends
// with the k-th item and holds reach(k) of them: so the first k items, for
// every k, are those of a few whole blocks, and no block is ever changed.
type History struct {
	blocks []block
}

// block is a run of items as they were written, put in order of days.
type block struct {
	newest int // the number of the entry written last
	rows   []row
}

// row is an item and the sum of its block's amounts up to it.
type row struct {
	api.Item
	sum int
}

// Add notes what a further entry has for the account; its number is greater
// than all before.
func (h *History) Add(item api.Item) {
	k := len(h.blocks) + 1
	rows := make([]row, 0, reach(k))
	for b := range h.span(k-reach(k), k-1) {
		rows = append(rows, b.rows...)
	}
	rows = append(rows, row{Item: item})
	slices.SortFunc(rows, func(x, y row) int { return order(x.Item, y.Item) })
	addUp(rows)
	h.blocks = append(h.blocks, block{newest: item.Entry, rows: rows})
}

// Balance is the sum of the amounts up to a day, known by so many entries.
func (h *History) Balance(day, known int) int {
	total := 0
	for b := range h.span(0, h.count(known)) {
		if n := b.before(day + 1); n > 0 {
			total += b.rows[n-1].sum
		}
	}
	return total
}

// Items are those whose days are from one to another, known by so many
// entries, in order of days and numbers.
func (h *History) Items(from, to, known int) []api.Item {
	var items []api.Item
	for b := range h.span(0, h.count(known)) {
		end := b.before(to + 1)
		for i := b.before(from); i < end; i++ {
			items = append(items, b.rows[i].Item)
		}
	}
	slices.SortFunc(items, order)
	return items
}

// count is how many items are known by so many entries.
func (h *History) count(known int) int {
	return sort.Search(len(h.blocks), func(i int) bool { return h.blocks[i].newest > known })
}

// span goes, from the newest to the oldest, through blocks that together hold
// just the items behind the first low ones, up to the one numbered high. No
// block reaches across low if low is 0, or k-reach(k) where high is k-1.
func (h *History) span(low, high int) iter.Seq[block] {
	return func(yield func(block) bool) {
		for k := high; k > low; k -= reach(k) {
			if !yield(h.blocks[k-1]) {
				return
			}
		}
	}
}

// before is how many of the block's items are of days before this one.
func (b block) before(day int) int {
	return sort.Search(len(b.rows), func(i int) bool { return b.rows[i].Day >= day })
}

// reach is the greatest power of two that divides k.
func reach(k int) int { return k & -k }

func order(x, y api.Item) int {
	return cmp.Or(cmp.Compare(x.Day, y.Day), cmp.Compare(x.Entry, y.Entry))
}

func addUp(rows []row) {
	sum := 0
	for i := range rows {
		sum += rows[i].Amount
		rows[i].sum = sum
	}
}
