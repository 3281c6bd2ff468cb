package annal

import (
	"testing"

	"annal/api"
)

// TestP5Locked: which days are locked is set from within, as no call locks
// any yet.
func TestP5Locked(t *testing.T) {
	b := New()
	b.Open("a", api.Stock)
	b.Open("b", api.Stock)
	b.unlocked = 4
	good := []api.Line{{Account: "a", Amount: 1}, {Account: "b", Amount: -1}}
	wrong := []api.Line{{Account: "a", Amount: 1}, {Account: "b", Amount: 1}}
	for _, day := range []int{0, 3} {
		if n, e := b.Post(day, good); n != 0 || e != api.ErrLocked {
			t.Errorf("Post(%d, ..) = %d, %d", day, n, e)
		}
	}
	if _, e := b.Post(3, wrong); e != api.ErrSum {
		t.Errorf("a wrong sum on a locked day: %d", e)
	}
	for number := 1; number <= api.MaxEntries; number++ {
		if n, e := b.Post(4, good); n != number || e != api.OK {
			t.Errorf("Post(4, ..) = %d, %d, want %d", n, e, number)
		}
	}
	if _, e := b.Post(3, good); e != api.ErrLocked {
		t.Errorf("one too many on a locked day: %d", e)
	}
}

func TestP4Kept(t *testing.T) {
	b := New()
	b.Open("s", api.Stock)
	b.Open("f", api.Flow)
	b.Open("s", api.Flow)
	if b.find("s").kind != api.Stock || b.find("f").kind != api.Flow {
		t.Error("an account has another kind than it was opened with")
	}
}
