package history

import (
	"math/bits"
	"math/rand"
	"slices"
	"testing"

	"annal/api"
)

// drawn is a history, and its items as they were written.
func drawn(r *rand.Rand, count, days int) (*History, []api.Item) {
	h := &History{}
	var written []api.Item
	entry := 0
	for range count {
		entry += 1 + r.Intn(3)
		item := api.Item{Entry: entry, Day: r.Intn(days), Amount: r.Intn(2001) - 1000}
		h.Add(item)
		written = append(written, item)
	}
	return h, written
}

func slowBalance(written []api.Item, day, known int) int {
	total := 0
	for _, item := range written {
		if item.Day <= day && item.Entry <= known {
			total += item.Amount
		}
	}
	return total
}

func slowItems(written []api.Item, from, to, known int) []api.Item {
	var items []api.Item
	for day := from; day <= to; day++ {
		for _, item := range written {
			if item.Day == day && item.Entry <= known {
				items = append(items, item)
			}
		}
	}
	return items
}

func TestEmpty(t *testing.T) {
	var h History
	if h.Balance(9999, 60) != 0 || len(h.Items(0, 9999, 60)) != 0 {
		t.Error("an empty history tells something")
	}
}

func TestAgainstAllItems(t *testing.T) {
	r := rand.New(rand.NewSource(7))
	for count := range 70 {
		days := 1 + r.Intn(12)
		h, written := drawn(r, count, days)
		for known := range 3*count + 2 {
			for day := range days + 1 {
				if got, want := h.Balance(day, known), slowBalance(written, day, known); got != want {
					t.Fatalf("Balance(%d, %d) = %d, want %d: %v", day, known, got, want, written)
				}
			}
			from, to := r.Intn(days+1), r.Intn(days+1)
			if got, want := h.Items(from, to, known), slowItems(written, from, to, known); !slices.Equal(got, want) {
				t.Fatalf("Items(%d, %d, %d) = %v, want %v", from, to, known, got, want)
			}
		}
	}
}

// TestFewBlocks: a balance asks a block for each binary digit 1 of the number
// of items, so never all items.
func TestFewBlocks(t *testing.T) {
	h, _ := drawn(rand.New(rand.NewSource(8)), 64, 5)
	for k := range 65 {
		blocks, items := 0, 0
		for b := range h.span(0, k) {
			blocks++
			items += len(b.rows)
		}
		if blocks != bits.OnesCount(uint(k)) || items != k {
			t.Errorf("the first %d items: %d items in %d blocks", k, items, blocks)
		}
	}
}

func TestBlocksAreInOrderWithSums(t *testing.T) {
	h, _ := drawn(rand.New(rand.NewSource(9)), 64, 5)
	for k, b := range h.blocks {
		sum := 0
		for i, row := range b.rows {
			sum += row.Amount
			if row.sum != sum {
				t.Errorf("block %d: the sum at row %d is %d, want %d", k+1, i, row.sum, sum)
			}
			if i > 0 && order(b.rows[i-1].Item, row.Item) >= 0 {
				t.Errorf("block %d: row %d is out of order", k+1, i)
			}
		}
	}
}

func TestBlocksStay(t *testing.T) {
	h, _ := drawn(rand.New(rand.NewSource(10)), 37, 5)
	var before [][]row
	for _, b := range h.blocks {
		before = append(before, slices.Clone(b.rows))
	}
	for entry := 1000; entry < 1040; entry++ {
		h.Add(api.Item{Entry: entry, Day: 2, Amount: 1})
	}
	for k, rows := range before {
		if !slices.Equal(h.blocks[k].rows, rows) {
			t.Errorf("block %d has changed", k+1)
		}
	}
}

func TestItemsAreNewMemory(t *testing.T) {
	h, written := drawn(rand.New(rand.NewSource(11)), 20, 5)
	items := h.Items(0, 9, 999)
	for i := range items[:cap(items)] {
		items[:cap(items)][i] = api.Item{Entry: -1, Day: -1, Amount: -1}
	}
	if got, want := h.Items(0, 9, 999), slowItems(written, 0, 9, 999); !slices.Equal(got, want) {
		t.Errorf("Items = %v, want %v", got, want)
	}
}
