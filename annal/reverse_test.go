package annal_test

import (
	"testing"

	"annal/api"
)

func TestP6Example(t *testing.T) {
	b := exampleBook(t)
	wantReverse(t, b, 1, 3, api.OK)
	wantBalance(t, b, "rent", 5, 3, 0, api.OK)
	wantBalance(t, b, "rent", 5, 2, 30, api.OK)
	wantReverse(t, b, 1, 0, api.ErrReversed)
	wantReverse(t, b, 3, 0, api.ErrReversed)
	wantClose(t, b, 4, "own", 4, api.OK)
	wantReverse(t, b, 2, 5, api.OK)
	wantItems(t, b, "cash", 0, 9999, 5, itemsOf(2, 3, -70, 1, 5, -30, 3, 5, 30, 5, 5, 70), api.OK)
}

func TestP6NoSuchEntry(t *testing.T) {
	b := bookOf(t, "a", "b")
	for _, entry := range append(noNumbers, 0, 1) {
		wantReverse(t, b, entry, 0, api.ErrNone)
	}
	wantPost(t, b, 1, linesOf("a", 1, "b", -1), 1, api.OK)
	for _, entry := range append(noNumbers, 0, 2) {
		wantReverse(t, b, entry, 0, api.ErrNone)
	}
	wantErrno(t, b.Lock(9999), api.OK)
	wantReverse(t, b, 2, 0, api.ErrNone)
	wantTrial(t, b, 1, 1, linesOf("a", 1, "b", -1), api.OK)
}

// TestP6AllLines: a reversal has each line of the other entry, and leaves
// what others wrote on that day.
func TestP6AllLines(t *testing.T) {
	b := bookOf(t, "a", "b", "c", "d", "e", "f")
	all := linesOf("f", 1000000000, "e", -999999999, "d", -4, "c", 5, "b", -1, "a", -1)
	wantPost(t, b, 7, all, 1, api.OK)
	wantPost(t, b, 7, linesOf("a", 2, "f", -2), 2, api.OK)
	wantReverse(t, b, 1, 3, api.OK)
	wantTrial(t, b, 6, 3, nil, api.OK)
	wantTrial(t, b, 7, 3, linesOf("a", 2, "f", -2), api.OK)
	wantItems(t, b, "e", 0, 9999, 3, itemsOf(1, 7, -999999999, 3, 7, 999999999), api.OK)
	wantItems(t, b, "f", 7, 7, 3, itemsOf(1, 7, 1000000000, 2, 7, -2, 3, 7, -1000000000), api.OK)
}

// TestP6Day: a reversal is of the same day, also where days before are
// locked; of the first open one, if its own is locked.
func TestP6Day(t *testing.T) {
	b := bookOf(t, "a", "b")
	for number, day := range []int{0, 4, 5, 6, 9999} {
		wantPost(t, b, day, linesOf("a", number+1, "b", -number-1), number+1, api.OK)
	}
	wantReverse(t, b, 1, 6, api.OK)
	wantItems(t, b, "a", 0, 0, 6, itemsOf(1, 0, 1, 6, 0, -1), api.OK)
	wantErrno(t, b.Lock(4), api.OK)
	wantReverse(t, b, 2, 7, api.OK)
	wantReverse(t, b, 3, 8, api.OK)
	wantReverse(t, b, 4, 9, api.OK)
	wantReverse(t, b, 5, 10, api.OK)
	all := itemsOf(1, 0, 1, 6, 0, -1, 2, 4, 2, 3, 5, 3, 7, 5, -2, 8, 5, -3, 4, 6, 4, 9, 6, -4, 5, 9999, 5, 10, 9999, -5)
	wantItems(t, b, "a", 0, 9999, 10, all, api.OK)
}

// TestP6FirstNamed: with all days locked and as many entries as there may be,
// each error gives way to those that are named ahead of it.
func TestP6FirstNamed(t *testing.T) {
	b := bookOf(t, "a", "b")
	for number := 1; number <= 59; number++ {
		wantPost(t, b, 3, linesOf("a", 1, "b", -1), number, api.OK)
	}
	wantErrno(t, b.Lock(9998), api.OK)
	wantReverse(t, b, 1, 60, api.OK)
	wantItems(t, b, "a", 4, 9999, 60, itemsOf(60, 9999, -1), api.OK)
	wantReverse(t, b, 61, 0, api.ErrNone)
	wantReverse(t, b, 1, 0, api.ErrReversed)
	wantReverse(t, b, 60, 0, api.ErrReversed)
	wantReverse(t, b, 2, 0, api.ErrMany)
	wantErrno(t, b.Lock(9999), api.OK)
	wantReverse(t, b, 61, 0, api.ErrNone)
	wantReverse(t, b, 1, 0, api.ErrReversed)
	wantReverse(t, b, 60, 0, api.ErrReversed)
	wantReverse(t, b, 2, 0, api.ErrLocked)
	wantBalance(t, b, "a", 9999, 60, 58, api.OK)
}

// TestP6RefusedIsNotReversed: an entry that could not be reversed was not.
func TestP6RefusedIsNotReversed(t *testing.T) {
	b := bookOf(t, "a", "b")
	wantPost(t, b, 9999, linesOf("a", 1, "b", -1), 1, api.OK)
	wantErrno(t, b.Lock(9999), api.OK)
	wantReverse(t, b, 1, 0, api.ErrLocked)
	wantReverse(t, b, 1, 0, api.ErrLocked)
	wantTrial(t, b, 9999, 2, nil, api.ErrNumber)
}

// TestP6Closings: what was closed has its balances again, on the first open
// day, and can be closed once more; a closing is reversed but once.
func TestP6Closings(t *testing.T) {
	b := exampleBook(t)
	wantClose(t, b, 6, "own", 3, api.OK)
	wantReverse(t, b, 3, 4, api.OK)
	wantTrial(t, b, 6, 4, linesOf("cash", -100, "own", 100), api.OK)
	wantTrial(t, b, 7, 4, linesOf("Löhne", 70, "cash", -100, "rent", 30), api.OK)
	wantReverse(t, b, 3, 0, api.ErrReversed)
	wantReverse(t, b, 4, 0, api.ErrReversed)
	wantClose(t, b, 7, "own", 5, api.OK)
	wantTrial(t, b, 7, 5, linesOf("cash", -100, "own", 100), api.OK)
	wantReverse(t, b, 1, 6, api.OK)
	wantTrial(t, b, 8, 6, linesOf("cash", -70, "own", 100, "rent", -30), api.OK)
}
