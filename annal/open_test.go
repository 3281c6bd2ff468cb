package annal_test

import (
	"strconv"
	"strings"
	"testing"

	"annal/annal"
	"annal/api"
)

func TestP3NewIsEmpty(t *testing.T) {
	b := annal.New()
	if b == nil {
		t.Fatal("New() is nil")
	}
	wantTrial(t, b, 9999, 0, nil, api.OK)
	wantTrial(t, b, 9999, 1, nil, api.ErrNumber)
	wantBalance(t, b, "a", 0, 0, 0, api.ErrNone)
	wantItems(t, b, "a", 0, 0, 0, nil, api.ErrNone)
}

func TestP3BooksAreApart(t *testing.T) {
	first, second := bookOf(t, "a", "b"), annal.New()
	wantBalance(t, second, "a", 0, 0, 0, api.ErrNone)
	wantErrno(t, second.Open("a", api.Flow), api.OK)
	wantErrno(t, second.Open("b", api.Flow), api.OK)
	wantPost(t, second, 1, linesOf("a", 5, "b", -5), 1, api.OK)
	wantTrial(t, first, 9999, 0, nil, api.OK)
	wantTrial(t, first, 9999, 1, nil, api.ErrNumber)
}

func TestP4Names(t *testing.T) {
	right := []string{"!", "~", "¡", "Löhne", "a\u2003b", "\ufffc", "\ufffe", "\U0010ffff", strings.Repeat("€", 12)}
	for _, name := range right {
		b := annal.New()
		wantErrno(t, b.Open(name, api.Flow), api.OK)
		wantBalance(t, b, name, 0, 0, 0, api.OK)
	}
	wrong := []string{"", " ", "a b", "a\n", "\x00", "\x1f", "\x7f", "\u0080", "\u00a0", "\ufffd", "\xff", "\xed\xa0\x80", strings.Repeat("a", 13), strings.Repeat("€", 13)}
	for _, name := range wrong {
		b := annal.New()
		wantErrno(t, b.Open(name, api.Stock), api.ErrName)
		wantErrno(t, b.Open(name, 2), api.ErrName)
		wantBalance(t, b, name, 0, 0, 0, api.ErrNone)
	}
}

func TestP4KindsComeAheadOfThere(t *testing.T) {
	b := bookOf(t, "a")
	for _, kind := range []int{-1, 2, greatest, least} {
		wantErrno(t, b.Open("a", kind), api.ErrKind)
		wantErrno(t, b.Open("b", kind), api.ErrKind)
	}
	wantBalance(t, b, "b", 0, 0, 0, api.ErrNone)
}

func TestP4ThereAndMany(t *testing.T) {
	b := annal.New()
	for i := range 10 {
		wantErrno(t, b.Open("n"+strconv.Itoa(i), i%2), api.OK)
		wantErrno(t, b.Open("n"+strconv.Itoa(i), api.Stock), api.ErrThere)
		wantErrno(t, b.Open("n"+strconv.Itoa(i), api.Flow), api.ErrThere)
	}
	wantErrno(t, b.Open("eleventh", api.Stock), api.ErrMany)
	wantErrno(t, b.Open("n3", api.Stock), api.ErrThere)
	wantErrno(t, b.Open("eleventh", 2), api.ErrKind)
	wantErrno(t, b.Open("", api.Stock), api.ErrName)
	wantBalance(t, b, "eleventh", 0, 0, 0, api.ErrNone)
}

// TestP4NamesAreBytes: names that look alike, or differ in capitals, are two.
func TestP4NamesAreBytes(t *testing.T) {
	b := bookOf(t, "é", "e\u0301", "E", "e")
	wantPost(t, b, 1, linesOf("é", 1, "e\u0301", 2, "E", 3, "e", -6), 1, api.OK)
	wantTrial(t, b, 1, 1, linesOf("E", 3, "e", -6, "e\u0301", 2, "é", 1), api.OK)
}
