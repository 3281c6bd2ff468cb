package annal_test

import (
	"slices"
	"testing"

	"annal/annal"
	"annal/api"
)

const (
	greatest = 1<<63 - 1
	least    = -1 << 63
)

// noDays and noNumbers are refused whatever a book holds.
var (
	noDays    = []int{-1, 10000, greatest, least}
	noNumbers = []int{-1, 61, greatest, least}
)

// bookOf has a Stock of each name.
func bookOf(t *testing.T, names ...string) *annal.Book {
	t.Helper()
	b := annal.New()
	for _, name := range names {
		wantErrno(t, b.Open(name, api.Stock), api.OK)
	}
	return b
}

// exampleBook is that of the document's first example.
func exampleBook(t *testing.T) *annal.Book {
	t.Helper()
	b := annal.New()
	wantErrno(t, b.Open("cash", api.Stock), api.OK)
	wantErrno(t, b.Open("Löhne", api.Flow), api.OK)
	wantErrno(t, b.Open("rent", api.Flow), api.OK)
	wantErrno(t, b.Open("own", api.Stock), api.OK)
	wantPost(t, b, 5, linesOf("cash", -30, "rent", 30), 1, api.OK)
	wantPost(t, b, 3, linesOf("cash", -70, "Löhne", 70), 2, api.OK)
	return b
}

func wantErrno(t *testing.T, got, want api.Errno) {
	t.Helper()
	if got != want {
		t.Errorf("the error is %d, want %d", got, want)
	}
}

func wantPost(t *testing.T, b *annal.Book, day int, lines []api.Line, number int, errno api.Errno) {
	t.Helper()
	if n, e := b.Post(day, lines); n != number || e != errno {
		t.Errorf("Post(%d, %#v) = %d, %d, want %d, %d", day, lines, n, e, number, errno)
	}
}

func wantReverse(t *testing.T, b *annal.Book, entry, number int, errno api.Errno) {
	t.Helper()
	if n, e := b.Reverse(entry); n != number || e != errno {
		t.Errorf("Reverse(%d) = %d, %d, want %d, %d", entry, n, e, number, errno)
	}
}

func wantClose(t *testing.T, b *annal.Book, day int, into string, number int, errno api.Errno) {
	t.Helper()
	if n, e := b.Close(day, into); n != number || e != errno {
		t.Errorf("Close(%d, %q) = %d, %d, want %d, %d", day, into, n, e, number, errno)
	}
}

func wantBalance(t *testing.T, b *annal.Book, name string, day, known, balance int, errno api.Errno) {
	t.Helper()
	if n, e := b.Balance(name, day, known); n != balance || e != errno {
		t.Errorf("Balance(%q, %d, %d) = %d, %d, want %d, %d", name, day, known, n, e, balance, errno)
	}
}

func wantTrial(t *testing.T, b *annal.Book, day, known int, lines []api.Line, errno api.Errno) {
	t.Helper()
	if l, e := b.Trial(day, known); !slices.Equal(l, lines) || e != errno {
		t.Errorf("Trial(%d, %d) = %#v, %d, want %#v, %d", day, known, l, e, lines, errno)
	}
}

func wantItems(t *testing.T, b *annal.Book, name string, from, to, known int, items []api.Item, errno api.Errno) {
	t.Helper()
	if l, e := b.Items(name, from, to, known); !slices.Equal(l, items) || e != errno {
		t.Errorf("Items(%q, %d, %d, %d) = %v, %d, want %v, %d", name, from, to, known, l, e, items, errno)
	}
}

// linesOf takes accounts and amounts by turns.
func linesOf(words ...any) []api.Line {
	var lines []api.Line
	for pair := range slices.Chunk(words, 2) {
		lines = append(lines, api.Line{Account: pair[0].(string), Amount: pair[1].(int)})
	}
	return lines
}

// itemsOf takes entry, day and amount by turns.
func itemsOf(numbers ...int) []api.Item {
	var items []api.Item
	for n := range slices.Chunk(numbers, 3) {
		items = append(items, api.Item{Entry: n[0], Day: n[1], Amount: n[2]})
	}
	return items
}

// filled overwrites a list with its spare room.
func filled[T any](list []T, value T) {
	whole := list[:cap(list)]
	for i := range whole {
		whole[i] = value
	}
}
