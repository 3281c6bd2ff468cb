package annal_test

import (
	"testing"

	"annal/annal"
	"annal/api"
)

func TestP7LockNoDay(t *testing.T) {
	b := bookOf(t, "a", "b")
	for _, day := range noDays {
		wantErrno(t, b.Lock(day), api.ErrDay)
	}
	wantPost(t, b, 0, linesOf("a", 1, "b", -1), 1, api.OK)
	wantErrno(t, b.Lock(9999), api.OK)
	for _, day := range noDays {
		wantErrno(t, b.Lock(day), api.ErrDay)
	}
}

func TestP7LockUpTo(t *testing.T) {
	b := annal.New()
	wantErrno(t, b.Lock(0), api.OK)
	wantErrno(t, b.Lock(0), api.ErrLocked)
	wantErrno(t, b.Lock(1), api.OK)
	wantErrno(t, b.Lock(7), api.OK)
	for day := range 8 {
		wantErrno(t, b.Lock(day), api.ErrLocked)
	}
	wantErrno(t, b.Lock(8), api.OK)
	wantErrno(t, b.Lock(9999), api.OK)
	wantErrno(t, b.Lock(9999), api.ErrLocked)
}

// TestP7LockOfNothingElse: accounts are opened and the past is told as before.
func TestP7LockOfNothingElse(t *testing.T) {
	b := exampleBook(t)
	wantErrno(t, b.Lock(9999), api.OK)
	wantErrno(t, b.Open("new", api.Flow), api.OK)
	wantBalance(t, b, "new", 0, 2, 0, api.OK)
	wantTrial(t, b, 5, 2, linesOf("Löhne", 70, "cash", -100, "rent", 30), api.OK)
	wantItems(t, b, "cash", 0, 9, 2, itemsOf(2, 3, -70, 1, 5, -30), api.OK)
	wantTrial(t, b, 5, 3, nil, api.ErrNumber)
}

func TestP5Locked(t *testing.T) {
	b := bookOf(t, "a", "b")
	good, wrong := linesOf("a", 1, "b", -1), linesOf("a", 1, "b", 1)
	wantErrno(t, b.Lock(3), api.OK)
	for _, day := range []int{0, 3} {
		wantPost(t, b, day, good, 0, api.ErrLocked)
		wantPost(t, b, day, wrong, 0, api.ErrSum)
	}
	wantPost(t, b, -1, good, 0, api.ErrDay)
	for number := 1; number <= 60; number++ {
		wantPost(t, b, 4, good, number, api.OK)
	}
	wantPost(t, b, 3, good, 0, api.ErrLocked)
	wantPost(t, b, 4, good, 0, api.ErrMany)
}
