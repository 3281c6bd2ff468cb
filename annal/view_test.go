package annal_test

import (
	"testing"

	"annal/api"
)

func TestP8Example(t *testing.T) {
	b := exampleBook(t)
	wantBalance(t, b, "cash", 5, 2, -100, api.OK)
	wantBalance(t, b, "cash", 4, 2, -70, api.OK)
	wantBalance(t, b, "cash", 5, 1, -30, api.OK)
	wantBalance(t, b, "cash", 4, 1, 0, api.OK)
	wantBalance(t, b, "cash", 9999, 0, 0, api.OK)
	wantBalance(t, b, "own", 9999, 2, 0, api.OK)
	wantTrial(t, b, 5, 2, linesOf("Löhne", 70, "cash", -100, "rent", 30), api.OK)
	wantTrial(t, b, 4, 2, linesOf("Löhne", 70, "cash", -70), api.OK)
	wantTrial(t, b, 2, 2, nil, api.OK)
	wantItems(t, b, "cash", 0, 9, 2, itemsOf(2, 3, -70, 1, 5, -30), api.OK)
}

func TestP8Refusals(t *testing.T) {
	b := exampleBook(t)
	for _, known := range append(noNumbers, 3) {
		for _, day := range noDays {
			wantBalance(t, b, "nobody", day, known, 0, api.ErrNone)
			wantBalance(t, b, "cash", day, known, 0, api.ErrDay)
			wantTrial(t, b, day, known, nil, api.ErrDay)
			wantItems(t, b, "nobody", day, day, known, nil, api.ErrNone)
			wantItems(t, b, "cash", day, 0, known, nil, api.ErrDay)
			wantItems(t, b, "cash", 0, day, known, nil, api.ErrDay)
		}
		wantBalance(t, b, "", 0, known, 0, api.ErrNone)
		wantBalance(t, b, "cash", 0, known, 0, api.ErrNumber)
		wantTrial(t, b, 0, known, nil, api.ErrNumber)
		wantItems(t, b, "cash", 0, 9999, known, nil, api.ErrNumber)
		wantItems(t, b, "cash", 9999, 0, known, nil, api.ErrNumber)
	}
}

func TestP8ItemsFromTo(t *testing.T) {
	b := bookOf(t, "a", "b", "c")
	for number, day := range []int{7, 0, 7, 9999, 3, 7} {
		lines := linesOf("a", number+1, "b", -number-1)
		wantPost(t, b, day, lines, number+1, api.OK)
	}
	all := itemsOf(2, 0, 2, 5, 3, 5, 1, 7, 1, 3, 7, 3, 6, 7, 6, 4, 9999, 4)
	wantItems(t, b, "a", 0, 9999, 6, all, api.OK)
	wantItems(t, b, "a", 0, 0, 6, all[:1], api.OK)
	wantItems(t, b, "a", 1, 7, 6, all[1:5], api.OK)
	wantItems(t, b, "a", 7, 7, 5, all[2:4], api.OK)
	wantItems(t, b, "a", 9999, 9999, 6, all[5:], api.OK)
	wantItems(t, b, "a", 8, 9998, 6, nil, api.OK)
	wantItems(t, b, "a", 7, 3, 6, nil, api.OK)
	wantItems(t, b, "a", 9999, 0, 6, nil, api.OK)
	wantItems(t, b, "a", 0, 9999, 0, nil, api.OK)
	wantItems(t, b, "c", 0, 9999, 6, nil, api.OK)
}

// TestP8NothingLeft: an account whose amounts make 0 together stands in no
// trial, and has its items all the same.
func TestP8NothingLeft(t *testing.T) {
	b := bookOf(t, "a", "b", "c")
	wantPost(t, b, 2, linesOf("a", 5, "b", -5), 1, api.OK)
	wantPost(t, b, 2, linesOf("b", 5, "c", -5), 2, api.OK)
	wantBalance(t, b, "b", 2, 2, 0, api.OK)
	wantTrial(t, b, 2, 2, linesOf("a", 5, "c", -5), api.OK)
	wantTrial(t, b, 2, 1, linesOf("a", 5, "b", -5), api.OK)
	wantItems(t, b, "b", 2, 2, 2, itemsOf(1, 2, -5, 2, 2, 5), api.OK)
}
