package annal_test

import (
	"slices"
	"testing"
	"unsafe"

	"annal/api"
)

func TestP2ListsHandedIn(t *testing.T) {
	b := bookOf(t, "a", "b")
	whole := linesOf("b", 7, "a", -7, "spare", 1, "room", 2)
	before := slices.Clone(whole)
	wantPost(t, b, 1, whole[:2], 1, api.OK)
	wantPost(t, b, 1, whole[:3], 0, api.ErrNone)
	if !slices.Equal(whole, before) {
		t.Errorf("Post has changed the list: %v", whole)
	}
	filled(whole, api.Line{Account: "a", Amount: 99})
	wantTrial(t, b, 1, 1, linesOf("a", -7, "b", 7), api.OK)
	wantItems(t, b, "b", 0, 9, 1, itemsOf(1, 1, 7), api.OK)
	wantReverse(t, b, 1, 2, api.OK)
	wantItems(t, b, "b", 0, 9, 2, itemsOf(1, 1, 7, 2, 1, -7), api.OK)
	wantTrial(t, b, 1, 2, nil, api.OK)
}

func TestP2AnswersAreNew(t *testing.T) {
	b := exampleBook(t)
	trial, _ := b.Trial(5, 2)
	other, _ := b.Trial(5, 2)
	filled(trial, api.Line{Account: "over", Amount: 1})
	if want := linesOf("Löhne", 70, "cash", -100, "rent", 30); !slices.Equal(other, want) {
		t.Errorf("two trials share memory: %v", other)
	}
	items, _ := b.Items("cash", 0, 9, 2)
	others, _ := b.Items("cash", 0, 9, 2)
	filled(items, api.Item{Entry: 9, Day: 9, Amount: 9})
	if want := itemsOf(2, 3, -70, 1, 5, -30); !slices.Equal(others, want) {
		t.Errorf("two lists of items share memory: %v", others)
	}
	wantPost(t, b, 4, linesOf("cash", 1, "own", -1), 3, api.OK)
	wantTrial(t, b, 5, 3, linesOf("Löhne", 70, "cash", -99, "own", -1, "rent", 30), api.OK)
	wantItems(t, b, "cash", 0, 9, 3, itemsOf(2, 3, -70, 3, 4, 1, 1, 5, -30), api.OK)
}

func TestP2SpareRoomHoldsNothing(t *testing.T) {
	b := exampleBook(t)
	trial, _ := b.Trial(5, 2)
	for _, line := range trial[len(trial):cap(trial)] {
		if line != (api.Line{}) {
			t.Errorf("a trial's spare room has %v", line)
		}
	}
	items, _ := b.Items("cash", 4, 9, 2)
	for _, item := range items[len(items):cap(items)] {
		if item != (api.Item{}) {
			t.Errorf("the spare room of items has %v", item)
		}
	}
}

// TestP2TextsHandedIn: the bytes behind a text or a name may become others
// once a call is over, as a book has names of its own.
func TestP2TextsHandedIn(t *testing.T) {
	text, fill := borrowed(exampleText)
	b := wantReads(t, text)
	name, fillName := borrowed("new")
	wantErrno(t, b.Open(name, api.Stock), api.OK)
	into, fillInto := borrowed("new")
	wantPost(t, b, 6, linesOf(into, 5, "rent", -5), 7, api.OK)
	wantClose(t, b, 6, into, 8, api.OK)
	fill()
	fillName()
	fillInto()
	wantText(t, b, exampleText+"o new 0\np 6 new 5 rent -5\nc 6 new\n")
	wantReverse(t, b, 7, 9, api.OK)
	wantTrial(t, b, 5, 2, linesOf("Löhne", 70, "cash", -100, "rent", 30), api.OK)
	wantTrial(t, b, 7, 9, linesOf("new", -5, "rent", 5), api.OK)
}

// borrowed is a text whose bytes can be written over.
func borrowed(text string) (string, func()) {
	raw := []byte(text)
	return unsafe.String(&raw[0], len(raw)), func() { filled(raw, 'x') }
}
