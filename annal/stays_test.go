package annal_test

import (
	"reflect"
	"testing"

	"annal/annal"
	"annal/api"
)

// sight is all that is told of some days and accounts, known by one number of
// entries.
type sight struct {
	trials   [][]api.Line
	balances []int
	items    [][]api.Item
}

var sightDays = []int{0, 1, 2, 3, 4, 5, 6, 7, 8, 11, 15, 20, 30, 9989, 9990, 9995, 9999}

// see looks at accounts that are there by then: those opened later have none
// of these.
func see(b *annal.Book, names []string, known int) sight {
	var s sight
	for _, day := range sightDays {
		trial, _ := b.Trial(day, known)
		s.trials = append(s.trials, trial)
		for _, name := range names {
			balance, _ := b.Balance(name, day, known)
			s.balances = append(s.balances, balance)
		}
	}
	for _, name := range names {
		items, _ := b.Items(name, 0, 9999, known)
		s.items = append(s.items, items)
	}
	return s
}

func wantSight(t *testing.T, b *annal.Book, names []string, known int, want sight) {
	t.Helper()
	if got := see(b, names, known); !reflect.DeepEqual(got, want) {
		t.Errorf("known by %d entries there was %v, now %v", known, want, got)
	}
}

// TestP11Stays: whatever is done, answered OK or not, what was known by a
// number of entries is told as it was when there were so many.
func TestP11Stays(t *testing.T) {
	for seed := range int64(20) {
		d, b, p := beginning(seed)
		names := rightNames[:10]
		for i, name := range names {
			wantErrno(t, b.Open(name, i%2), p.open(name, i%2, true))
		}
		seen := []sight{see(b, names, 0)}
		for range 150 {
			drawnChange(t, d, b, p)
			if len(p.entries) == len(seen) {
				seen = append(seen, see(b, names, len(seen)))
			}
			known := d.Intn(len(seen))
			wantSight(t, b, names, known, seen[known])
		}
		for known, want := range seen {
			wantSight(t, b, names, known, want)
		}
		if t.Failed() {
			t.Fatalf("seed %d", seed)
		}
	}
}

// TestP11TrialsAreNothingTogether: on each day, known by each number.
func TestP11TrialsAreNothingTogether(t *testing.T) {
	for seed := range int64(20) {
		d, b, p := beginning(seed)
		for range 300 {
			drawnChange(t, d, b, p)
		}
		for known := range len(p.entries) + 1 {
			for _, day := range sightDays {
				trial, errno := b.Trial(day, known)
				wantErrno(t, errno, api.OK)
				wantNothingTogether(t, trial)
			}
		}
	}
}

func wantNothingTogether(t *testing.T, trial []api.Line) {
	t.Helper()
	total := 0
	for _, line := range trial {
		total += line.Amount
	}
	if total != 0 {
		t.Errorf("a trial makes %d: %v", total, trial)
	}
}

// TestP11ByHand: the past of a day that is closed, reversed and posted to.
func TestP11ByHand(t *testing.T) {
	b := flowBook(t)
	wantPost(t, b, 5, linesOf("a", 10, "x", -10), 1, api.OK)
	wantPost(t, b, 3, linesOf("a", 1, "b", -1), 2, api.OK)
	stays := func() {
		t.Helper()
		wantTrial(t, b, 5, 0, nil, api.OK)
		wantTrial(t, b, 5, 1, linesOf("a", 10, "x", -10), api.OK)
		wantTrial(t, b, 5, 2, linesOf("a", 11, "b", -1, "x", -10), api.OK)
		wantTrial(t, b, 4, 2, linesOf("a", 1, "b", -1), api.OK)
		wantItems(t, b, "a", 0, 9999, 2, itemsOf(2, 3, 1, 1, 5, 10), api.OK)
	}
	stays()
	wantReverse(t, b, 2, 3, api.OK)
	stays()
	wantClose(t, b, 5, "b", 4, api.OK)
	stays()
	wantReverse(t, b, 1, 5, api.OK)
	stays()
	wantPost(t, b, 6, linesOf("a", 3, "x", -3), 6, api.OK)
	wantErrno(t, b.Lock(9999), api.OK)
	stays()
	wantTrial(t, b, 5, 4, linesOf("a", 10, "b", -10), api.OK)
	wantTrial(t, b, 9999, 6, linesOf("a", 3, "b", -10, "x", 7), api.OK)
}
