package annal_test

import (
	"strconv"
	"strings"
	"testing"

	"annal/annal"
	"annal/api"
)

const exampleText = "o cash 0\no Löhne 1\no rent 1\no own 0\np 5 cash -30 rent 30\np 3 cash -70 Löhne 70\n" +
	"r 1\nc 4 own\nr 2\nc 5 own\n"

func wantText(t *testing.T, b *annal.Book, want string) {
	t.Helper()
	if got := b.Write(); got != want {
		t.Errorf("the text is %q, want %q", got, want)
	}
}

func TestP9Example(t *testing.T) {
	b := exampleBook(t)
	wantReverse(t, b, 1, 3, api.OK)
	wantClose(t, b, 4, "own", 4, api.OK)
	wantReverse(t, b, 2, 5, api.OK)
	wantClose(t, b, 5, "own", 6, api.OK)
	wantText(t, b, exampleText)
}

// TestP9EachForm: each deed is told as it was asked for, in the order of the
// calls, whatever kinds of deeds stand around it.
func TestP9EachForm(t *testing.T) {
	b := annal.New()
	text := ""
	told := func(line string) {
		t.Helper()
		text += line + "\n"
		wantText(t, b, text)
	}
	wantText(t, b, "")
	wantErrno(t, b.Lock(0), api.OK)
	told("l 0")
	wantErrno(t, b.Open("z", api.Flow), api.OK)
	told("o z 1")
	wantErrno(t, b.Open("a", api.Stock), api.OK)
	told("o a 0")
	wantPost(t, b, 1, linesOf("z", 10, "a", -10), 1, api.OK)
	told("p 1 z 10 a -10")
	wantErrno(t, b.Lock(1), api.OK)
	told("l 1")
	wantReverse(t, b, 1, 2, api.OK)
	told("r 1")
	wantErrno(t, b.Open("-5", api.Flow), api.OK)
	told("o -5 1")
	wantPost(t, b, 200, linesOf("a", -7, "z", 3, "-5", 4), 3, api.OK)
	told("p 200 a -7 z 3 -5 4")
	wantClose(t, b, 200, "a", 4, api.OK)
	told("c 200 a")
	wantReverse(t, b, 4, 5, api.OK)
	told("r 4")
	wantErrno(t, b.Lock(9999), api.OK)
	told("l 9999")
	wantErrno(t, b.Open("late", api.Stock), api.OK)
	told("o late 0")
}

// TestP9LinesInTheirOrder: as they were given, not by their names.
func TestP9LinesInTheirOrder(t *testing.T) {
	b := bookOf(t, "a", "b", "c", "d", "e", "f")
	head := b.Write()
	wantPost(t, b, 1, linesOf("f", 1, "a", 2, "e", 3, "b", 4, "d", 5, "c", -15), 1, api.OK)
	wantPost(t, b, 0, linesOf("b", -1, "a", 1), 2, api.OK)
	wantText(t, b, head+"p 1 f 1 a 2 e 3 b 4 d 5 c -15\np 0 b -1 a 1\n")
}

// TestP9Numbers: the least and the greatest that there are.
func TestP9Numbers(t *testing.T) {
	b := bookOf(t, "a", "b")
	wantPost(t, b, 0, linesOf("a", 1, "b", -1), 1, api.OK)
	wantPost(t, b, 10, linesOf("a", 1000000000, "b", -1000000000), 2, api.OK)
	wantPost(t, b, 9999, linesOf("a", -999999999, "b", 999999999), 3, api.OK)
	text := "o a 0\no b 0\np 0 a 1 b -1\np 10 a 1000000000 b -1000000000\np 9999 a -999999999 b 999999999\n"
	wantText(t, b, text)
	for number := 4; number <= 59; number++ {
		wantPost(t, b, 100, linesOf("a", 10, "b", -10), number, api.OK)
		text += "p 100 a 10 b -10\n"
	}
	wantReverse(t, b, 59, 60, api.OK)
	wantText(t, b, text+"r 59\n")
}

// TestP9Refused: what is refused, and what is only asked, is not told.
func TestP9Refused(t *testing.T) {
	b := flowBook(t)
	wantPost(t, b, 5, linesOf("a", 5, "x", -5), 1, api.OK)
	wantReverse(t, b, 1, 2, api.OK)
	wantErrno(t, b.Lock(3), api.OK)
	text := "o a 0\no b 0\no x 1\no y 1\no z 1\np 5 a 5 x -5\nr 1\nl 3\n"
	wantErrno(t, b.Open("a b", api.Stock), api.ErrName)
	wantErrno(t, b.Open("c", 2), api.ErrKind)
	wantErrno(t, b.Open("a", api.Flow), api.ErrThere)
	wantPost(t, b, 10000, linesOf("a", 5, "x", -5), 0, api.ErrDay)
	wantPost(t, b, 4, nil, 0, api.ErrLines)
	wantPost(t, b, 3, linesOf("a", 5, "x", -5), 0, api.ErrLocked)
	wantReverse(t, b, 3, 0, api.ErrNone)
	wantReverse(t, b, 1, 0, api.ErrReversed)
	wantErrno(t, b.Lock(10000), api.ErrDay)
	wantErrno(t, b.Lock(3), api.ErrLocked)
	wantClose(t, b, 9, "nobody", 0, api.ErrNone)
	wantClose(t, b, 9, "x", 0, api.ErrKind)
	wantClose(t, b, 3, "a", 0, api.ErrLocked)
	wantClose(t, b, 9, "a", 0, api.ErrNone)
	wantText(t, b, text)
	wantTrial(t, b, 9, 2, nil, api.OK)
	wantBalance(t, b, "a", 9, 1, 5, api.OK)
	wantItems(t, b, "a", 0, 9, 2, itemsOf(1, 5, 5, 2, 5, -5), api.OK)
	wantText(t, b, text)
}

// TestP9Full: nothing is told of what there is no room for.
func TestP9Full(t *testing.T) {
	b := annal.New()
	text := ""
	for i := range 10 {
		wantErrno(t, b.Open(strconv.Itoa(i), i%2), api.OK)
		text += "o " + strconv.Itoa(i) + " " + strconv.Itoa(i%2) + "\n"
	}
	wantErrno(t, b.Open("ten", api.Stock), api.ErrMany)
	for number := 1; number <= 60; number++ {
		wantPost(t, b, number, linesOf("1", 1, "0", -1), number, api.OK)
		text += "p " + strconv.Itoa(number) + " 1 1 0 -1\n"
	}
	wantPost(t, b, 61, linesOf("1", 1, "0", -1), 0, api.ErrMany)
	wantReverse(t, b, 1, 0, api.ErrMany)
	wantClose(t, b, 61, "0", 0, api.ErrMany)
	wantText(t, b, text)
	for day := range 10000 {
		wantErrno(t, b.Lock(day), api.OK)
		text += "l " + strconv.Itoa(day) + "\n"
	}
	wantText(t, b, text)
	wantReads(t, text)
}

// TestP9TextStays: a text that was told is not changed by what is done later.
func TestP9TextStays(t *testing.T) {
	b := bookOf(t, "a", "b")
	first := b.Write()
	kept := strings.Clone(first)
	wantPost(t, b, 1, linesOf("a", 1, "b", -1), 1, api.OK)
	second := b.Write()
	if first != kept || second != kept+"p 1 a 1 b -1\n" {
		t.Errorf("the texts are %q and %q", first, second)
	}
}

// TestP9Drawn: after each call a book is told as the plain one is.
func TestP9Drawn(t *testing.T) {
	for seed := range int64(50) {
		d, b, p := beginning(seed)
		for range 250 {
			drawnChange(t, d, b, p)
			wantText(t, b, p.text)
			if t.Failed() {
				t.Fatalf("seed %d", seed)
			}
		}
	}
}
