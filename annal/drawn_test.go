package annal_test

import (
	"math/rand"
	"strings"
	"testing"

	"annal/annal"
	"annal/api"
)

// drawing draws what calls are given, right and wrong.
type drawing struct{ *rand.Rand }

func beginning(seed int64) (drawing, *annal.Book, *plain) {
	return drawing{rand.New(rand.NewSource(seed))}, annal.New(), newPlain()
}

var (
	rightNames = []string{"a", "A", "b", "zz", "Löhne", "é", "e\u0301", "€", "!", "~~~~~~~~~~~~", "\U0010ffff"}
	wrongNames = []string{"", " ", "a b", "a\n", "\xff", "a\xc3", "\u00a0", "\ufffd", strings.Repeat("a", 13)}
	wrongs     = []int{-1, 10000, 1 << 32, 1<<32 + 1, greatest, least, 61}
)

func (d drawing) name() (string, bool) {
	if d.Intn(20) == 0 {
		return wrongNames[d.Intn(len(wrongNames))], false
	}
	return rightNames[d.Intn(len(rightNames))], true
}

// number is mostly below a bound.
func (d drawing) number(below int) int {
	if d.Intn(20) == 0 {
		return wrongs[d.Intn(len(wrongs))]
	}
	return d.Intn(below)
}

func (d drawing) day() int {
	if d.Intn(30) == 0 {
		return 9990 + d.Intn(10)
	}
	return d.number(12)
}

// dayNear is mostly a few days before or behind the first open one.
func (d drawing) dayNear(open int) int {
	if d.Intn(4) == 0 {
		return d.day()
	}
	return open - 2 + d.Intn(8)
}

func (d drawing) amount() int {
	if d.Intn(30) == 0 {
		return []int{0, 1000000000, -1000000000, 1000000001, -1000000001, greatest, least}[d.Intn(7)]
	}
	return d.Intn(101) - 50
}

// lines mostly are of several accounts and make 0 together.
func (d drawing) lines() []api.Line {
	count := 2 + d.Intn(3)
	if d.Intn(10) == 0 {
		count = d.Intn(9)
	}
	var lines []api.Line
	total := 0
	for _, place := range d.Perm(9)[:count] {
		name := rightNames[place]
		if d.Intn(20) == 0 {
			name, _ = d.name()
		}
		lines = append(lines, api.Line{Account: name, Amount: d.amount()})
		total += lines[len(lines)-1].Amount
	}
	if count > 0 && d.Intn(10) > 0 {
		lines[count-1].Amount -= total
	}
	return lines
}

// TestP1Drawn: whatever is called in whatever order, a book answers as the
// plain one does; so the first error is told, and none changes anything.
func TestP1Drawn(t *testing.T) {
	for seed := range int64(150) {
		d, b, p := beginning(seed)
		for range 400 {
			drawnChange(t, d, b, p)
			drawnView(t, d, b, p)
			if t.Failed() {
				t.Fatalf("seed %d", seed)
			}
		}
	}
}

func drawnChange(t *testing.T, d drawing, b *annal.Book, p *plain) {
	t.Helper()
	name, right := d.name()
	day := d.dayNear(p.openDay(0))
	switch call := d.Intn(60); {
	case call < 12:
		kind := d.number(3)
		wantErrno(t, b.Open(name, kind), p.open(name, kind, right))
	case call < 18:
		entry := d.number(len(p.entries) + 2)
		number, errno := p.reverse(entry)
		wantReverse(t, b, entry, number, errno)
	case call < 19:
		wantErrno(t, b.Lock(day), p.lock(day))
	case call < 23:
		number, errno := p.close(day, name)
		wantClose(t, b, day, name, number, errno)
	default:
		lines := d.lines()
		number, errno := p.post(day, lines)
		wantPost(t, b, day, lines, number, errno)
	}
}

func drawnView(t *testing.T, d drawing, b *annal.Book, p *plain) {
	t.Helper()
	name, _ := d.name()
	from, to, known := d.day(), d.dayNear(p.openDay(0)), d.number(len(p.entries)+2)
	balance, errno := p.balance(name, to, known)
	wantBalance(t, b, name, to, known, balance, errno)
	trial, errno := p.trial(to, known)
	wantTrial(t, b, to, known, trial, errno)
	items, errno := p.items(name, from, to, known)
	wantItems(t, b, name, from, to, known, items, errno)
}
