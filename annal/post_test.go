package annal_test

import (
	"testing"

	"annal/api"
)

func TestP5Numbers(t *testing.T) {
	b := bookOf(t, "a", "b", "c", "d", "e", "f")
	wantPost(t, b, 0, linesOf("a", 1, "b", -1), 1, api.OK)
	wantPost(t, b, 9999, linesOf("a", 1, "b", 1, "c", 1, "d", 1, "e", 1, "f", -5), 2, api.OK)
	wantPost(t, b, 0, linesOf("a", 1, "b", 1), 0, api.ErrSum)
	wantPost(t, b, 0, linesOf("b", 1000000000, "a", -1000000000), 3, api.OK)
	wantBalance(t, b, "a", 9999, 3, 1+1-1000000000, api.OK)
}

// TestP5FirstNamed: each post has all the errors from its own on, as far as
// they go together.
func TestP5FirstNamed(t *testing.T) {
	b := bookOf(t, "a", "b", "c", "d", "e", "f", "g")
	for _, day := range noDays {
		wantPost(t, b, day, nil, 0, api.ErrDay)
		wantPost(t, b, day, linesOf("a", 1, "b", -1), 0, api.ErrDay)
	}
	seven := linesOf("nobody", 0, "a", 1, "a", 1, "b", 1, "c", 1, "d", 1, "e", 1)
	balanced := linesOf("a", 1, "b", 1, "c", 1, "d", 1, "e", 1, "f", 1, "g", -6)
	cases := []struct {
		lines []api.Line
		errno api.Errno
	}{
		{nil, api.ErrLines},
		{[]api.Line{}, api.ErrLines},
		{linesOf("nobody", 0), api.ErrLines},
		{linesOf("a", 1), api.ErrLines},
		{seven, api.ErrLines},
		{balanced, api.ErrLines},
		{make([]api.Line, 100000), api.ErrLines},
		{linesOf("a", 0, "a", 1, "nobody", 1), api.ErrNone},
		{linesOf("a", 1, "A", -1), api.ErrNone},
		{linesOf("a", 1, "", -1), api.ErrNone},
		{linesOf("a", 1, "b\xff", -1), api.ErrNone},
		{linesOf("b", 0, "a", 1, "a", greatest), api.ErrTwice},
		{linesOf("a", 1, "b", -2, "a", 1), api.ErrTwice},
		{linesOf("a", 0, "b", 5), api.ErrAmount},
		{linesOf("a", 5, "b", -5, "c", 0), api.ErrAmount},
		{linesOf("a", 1000000001, "b", -1000000001), api.ErrAmount},
		{linesOf("a", least, "b", least), api.ErrAmount},
		{linesOf("a", greatest, "b", -greatest), api.ErrAmount},
		{linesOf("a", 5, "b", -4), api.ErrSum},
		{linesOf("a", 1000000000, "b", 1000000000), api.ErrSum},
	}
	for _, c := range cases {
		wantPost(t, b, 3, c.lines, 0, c.errno)
	}
	wantTrial(t, b, 9999, 0, nil, api.OK)
	wantTrial(t, b, 9999, 1, nil, api.ErrNumber)
}

func TestP5Many(t *testing.T) {
	b := bookOf(t, "a", "b")
	good := linesOf("a", 1000000000, "b", -1000000000)
	for n := 1; n <= 60; n++ {
		wantPost(t, b, 60-n, good, n, api.OK)
	}
	wantPost(t, b, 0, good, 0, api.ErrMany)
	wantPost(t, b, 0, linesOf("a", 1, "b", 1), 0, api.ErrSum)
	wantPost(t, b, -1, good, 0, api.ErrDay)
	wantTrial(t, b, 9999, 60, linesOf("a", 60000000000, "b", -60000000000), api.OK)
	wantTrial(t, b, 9999, 61, nil, api.ErrNumber)
}

// TestP5OpenedLater: an account may be opened between entries, and stand in
// the order of names ahead of others.
func TestP5OpenedLater(t *testing.T) {
	b := bookOf(t, "m", "z")
	wantPost(t, b, 4, linesOf("z", 1, "m", -1), 1, api.OK)
	wantErrno(t, b.Open("a", api.Flow), api.OK)
	wantPost(t, b, 2, linesOf("z", 7, "a", -7), 2, api.OK)
	wantBalance(t, b, "a", 9999, 1, 0, api.OK)
	wantTrial(t, b, 4, 2, linesOf("a", -7, "m", -1, "z", 8), api.OK)
	wantTrial(t, b, 4, 1, linesOf("m", -1, "z", 1), api.OK)
}
