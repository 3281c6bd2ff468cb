package annal_test

import (
	"testing"

	"annal/annal"
	"annal/api"
)

// flowBook has the Stocks a and b, and the Flows x, y and z.
func flowBook(t *testing.T) *annal.Book {
	t.Helper()
	b := bookOf(t, "a", "b")
	for _, name := range []string{"x", "y", "z"} {
		wantErrno(t, b.Open(name, api.Flow), api.OK)
	}
	return b
}

func TestP7CloseExample(t *testing.T) {
	b := exampleBook(t)
	wantReverse(t, b, 1, 3, api.OK)
	wantClose(t, b, 4, "own", 4, api.OK)
	wantItems(t, b, "Löhne", 0, 9999, 4, itemsOf(2, 3, 70, 4, 4, -70), api.OK)
	wantItems(t, b, "own", 0, 9999, 4, itemsOf(4, 4, 70), api.OK)
	wantPost(t, b, 4, linesOf("cash", 1, "own", -1), 0, api.ErrLocked)
	wantReverse(t, b, 2, 5, api.OK)
	wantClose(t, b, 4, "own", 0, api.ErrLocked)
	wantClose(t, b, 5, "own", 6, api.OK)
	wantItems(t, b, "Löhne", 5, 9999, 6, itemsOf(5, 5, -70, 6, 5, 70), api.OK)
	wantItems(t, b, "own", 0, 9999, 6, itemsOf(4, 4, 70, 6, 5, -70), api.OK)
	wantItems(t, b, "rent", 0, 9999, 6, itemsOf(1, 5, 30, 3, 5, -30), api.OK)
}

// TestP7CloseFirstNamed: an error is told ahead of those behind it, whichever
// of these apply as well.
func TestP7CloseFirstNamed(t *testing.T) {
	b := flowBook(t)
	wantErrno(t, b.Lock(2), api.OK)
	for _, day := range noDays {
		wantClose(t, b, day, "nobody", 0, api.ErrDay)
		wantClose(t, b, day, "x", 0, api.ErrDay)
		wantClose(t, b, day, "a", 0, api.ErrDay)
	}
	for _, day := range []int{2, 3} {
		wantClose(t, b, day, "nobody", 0, api.ErrNone)
		wantClose(t, b, day, "", 0, api.ErrNone)
		wantClose(t, b, day, "\xff", 0, api.ErrNone)
		wantClose(t, b, day, "x", 0, api.ErrKind)
	}
	wantClose(t, b, 0, "a", 0, api.ErrLocked)
	wantClose(t, b, 2, "a", 0, api.ErrLocked)
	wantClose(t, b, 3, "a", 0, api.ErrNone)
	for number := 1; number <= 60; number++ {
		wantClose(t, b, 4, "a", 0, api.ErrNone)
		wantPost(t, b, 5, linesOf("a", 1, "x", -1), number, api.OK)
	}
	wantClose(t, b, 4, "a", 0, api.ErrNone)
	wantClose(t, b, 5, "a", 0, api.ErrMany)
	wantClose(t, b, 2, "a", 0, api.ErrLocked)
	wantClose(t, b, 5, "x", 0, api.ErrKind)
	wantErrno(t, b.Lock(3), api.OK)
	wantBalance(t, b, "x", 5, 60, -60, api.OK)
}

// TestP7CloseNothing: Stocks are not closed, nor Flows whose amounts make 0
// together, nor what comes on later days.
func TestP7CloseNothing(t *testing.T) {
	b := flowBook(t)
	wantPost(t, b, 3, linesOf("a", 5, "b", -5), 1, api.OK)
	wantPost(t, b, 3, linesOf("x", 5, "b", -5), 2, api.OK)
	wantReverse(t, b, 2, 3, api.OK)
	wantPost(t, b, 4, linesOf("x", 1, "y", -1), 4, api.OK)
	wantClose(t, b, 3, "a", 0, api.ErrNone)
	wantErrno(t, b.Lock(0), api.OK)
	wantTrial(t, b, 4, 5, nil, api.ErrNumber)
}

// TestP7CloseTakesTheDayAlone: of a Flow, what it has on the day; the account
// that it is closed into keeps what it had.
func TestP7CloseTakesTheDayAlone(t *testing.T) {
	b := flowBook(t)
	wantPost(t, b, 6, linesOf("x", 100, "y", -1, "b", -99), 1, api.OK)
	wantPost(t, b, 5, linesOf("x", 10, "y", -4, "a", -6), 2, api.OK)
	wantPost(t, b, 0, linesOf("x", 1, "z", 7, "b", -8), 3, api.OK)
	wantClose(t, b, 5, "a", 4, api.OK)
	wantTrial(t, b, 5, 4, linesOf("a", 8, "b", -8), api.OK)
	wantItems(t, b, "a", 0, 9999, 4, itemsOf(2, 5, -6, 4, 5, 14), api.OK)
	wantItems(t, b, "x", 0, 9999, 4, itemsOf(3, 0, 1, 2, 5, 10, 4, 5, -11, 1, 6, 100), api.OK)
	wantItems(t, b, "y", 5, 5, 4, itemsOf(2, 5, -4, 4, 5, 4), api.OK)
	wantItems(t, b, "z", 0, 9999, 4, itemsOf(3, 0, 7, 4, 5, -7), api.OK)
	wantItems(t, b, "b", 0, 9999, 4, itemsOf(3, 0, -8, 1, 6, -99), api.OK)
	wantTrial(t, b, 6, 4, linesOf("a", 8, "b", -107, "x", 100, "y", -1), api.OK)
}

// TestP7CloseNoLineOfNothing: neither the account that it is closed into has
// a line, if that would be of 0, nor a Flow that has nothing.
func TestP7CloseNoLineOfNothing(t *testing.T) {
	b := flowBook(t)
	wantPost(t, b, 5, linesOf("x", 10, "y", -10), 1, api.OK)
	wantPost(t, b, 5, linesOf("z", 10, "b", -10), 2, api.OK)
	wantReverse(t, b, 2, 3, api.OK)
	wantClose(t, b, 5, "a", 4, api.OK)
	wantItems(t, b, "a", 0, 9999, 4, nil, api.OK)
	wantItems(t, b, "z", 0, 9999, 4, itemsOf(2, 5, 10, 3, 5, -10), api.OK)
	wantItems(t, b, "y", 0, 9999, 4, itemsOf(1, 5, -10, 4, 5, 10), api.OK)
	wantReverse(t, b, 4, 5, api.OK)
	wantItems(t, b, "a", 0, 9999, 5, nil, api.OK)
	wantItems(t, b, "z", 6, 9999, 5, nil, api.OK)
}

func TestP7CloseLocks(t *testing.T) {
	b := flowBook(t)
	wantErrno(t, b.Lock(2), api.OK)
	wantPost(t, b, 3, linesOf("x", 10, "a", -10), 1, api.OK)
	wantClose(t, b, 7, "a", 2, api.OK)
	for _, day := range []int{0, 3, 6, 7} {
		wantErrno(t, b.Lock(day), api.ErrLocked)
		wantPost(t, b, day, linesOf("x", 1, "a", -1), 0, api.ErrLocked)
	}
	wantPost(t, b, 8, linesOf("x", 1, "a", -1), 3, api.OK)
	wantErrno(t, b.Lock(8), api.OK)
	wantClose(t, b, 9999, "b", 4, api.OK)
	wantItems(t, b, "b", 0, 9999, 4, itemsOf(4, 9999, 1), api.OK)
	wantPost(t, b, 9999, linesOf("x", 1, "a", -1), 0, api.ErrLocked)
	wantReverse(t, b, 4, 0, api.ErrLocked)
}

// TestP7CloseLarge: neither MaxLines nor MaxAmount bounds a closing.
func TestP7CloseLarge(t *testing.T) {
	b := bookOf(t, "own")
	flows := []string{"1", "2", "3", "4", "5", "6", "7", "8", "9"}
	for i, name := range flows {
		wantErrno(t, b.Open(name, api.Flow), api.OK)
		for k := range 6 {
			wantPost(t, b, k, linesOf(name, 1000000000, "own", -1000000000), 6*i+k+1, api.OK)
		}
	}
	wantClose(t, b, 9, "own", 55, api.OK)
	wantTrial(t, b, 9, 55, nil, api.OK)
	wantItems(t, b, "9", 9, 9, 55, itemsOf(55, 9, -6000000000), api.OK)
	wantItems(t, b, "own", 9, 9, 55, itemsOf(55, 9, 54000000000), api.OK)
	wantReverse(t, b, 55, 56, api.OK)
	wantItems(t, b, "own", 9, 9999, 56, itemsOf(55, 9, 54000000000, 56, 10, -54000000000), api.OK)
	wantBalance(t, b, "1", 10, 56, 6000000000, api.OK)
}

// TestP4KindKept: a second opening, which is refused, does not make a Stock a
// Flow or a Flow a Stock.
func TestP4KindKept(t *testing.T) {
	b := flowBook(t)
	wantErrno(t, b.Open("a", api.Flow), api.ErrThere)
	wantErrno(t, b.Open("x", api.Stock), api.ErrThere)
	wantPost(t, b, 1, linesOf("x", 1, "b", -1), 1, api.OK)
	wantClose(t, b, 1, "x", 0, api.ErrKind)
	wantClose(t, b, 1, "a", 2, api.OK)
	wantTrial(t, b, 1, 2, linesOf("a", 1, "b", -1), api.OK)
}
