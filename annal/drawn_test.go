package annal_test

import (
	"maps"
	"math/rand"
	"slices"
	"strings"
	"testing"

	"annal/annal"
	"annal/api"
)

// plain is a book as simple as can be: all entries are gone through for
// whatever is asked.
type plain struct {
	kinds   map[string]int
	entries []plainEntry
}

type plainEntry struct {
	day   int
	lines map[string]int
}

// fault is an error, and whether it applies.
type fault struct {
	errno   api.Errno
	applies bool
}

func first(faults ...fault) api.Errno {
	for _, f := range faults {
		if f.applies {
			return f.errno
		}
	}
	return api.OK
}

func wrongDay(day int) bool { return day < 0 || day > 9999 }

func (p *plain) missing(name string) bool {
	_, there := p.kinds[name]
	return !there
}

func (p *plain) open(name string, kind int, right bool) api.Errno {
	errno := first(
		fault{api.ErrName, !right},
		fault{api.ErrKind, kind != 0 && kind != 1},
		fault{api.ErrThere, !p.missing(name)},
		fault{api.ErrMany, len(p.kinds) == 10})
	if errno == api.OK {
		p.kinds[name] = kind
	}
	return errno
}

func (p *plain) post(day int, lines []api.Line) (int, api.Errno) {
	none, amount, total := false, false, 0
	amounts := map[string]int{}
	for _, line := range lines {
		none = none || p.missing(line.Account)
		amount = amount || line.Amount == 0 || line.Amount > 1000000000 || line.Amount < -1000000000
		amounts[line.Account] += line.Amount
		total += line.Amount
	}
	errno := first(
		fault{api.ErrDay, wrongDay(day)},
		fault{api.ErrLines, len(lines) < 2 || len(lines) > 6},
		fault{api.ErrNone, none},
		fault{api.ErrTwice, len(amounts) < len(lines)},
		fault{api.ErrAmount, amount},
		fault{api.ErrSum, total != 0},
		fault{api.ErrMany, len(p.entries) == 60})
	if errno != api.OK {
		return 0, errno
	}
	p.entries = append(p.entries, plainEntry{day, amounts})
	return len(p.entries), api.OK
}

func (p *plain) wrongNumber(known int) bool { return known < 0 || known > len(p.entries) }

func (p *plain) sum(name string, day, known int) int {
	total := 0
	for _, entry := range p.entries[:known] {
		if entry.day <= day {
			total += entry.lines[name]
		}
	}
	return total
}

func (p *plain) balance(name string, day, known int) (int, api.Errno) {
	errno := first(
		fault{api.ErrNone, p.missing(name)},
		fault{api.ErrDay, wrongDay(day)},
		fault{api.ErrNumber, p.wrongNumber(known)})
	if errno != api.OK {
		return 0, errno
	}
	return p.sum(name, day, known), api.OK
}

func (p *plain) trial(day, known int) ([]api.Line, api.Errno) {
	errno := first(
		fault{api.ErrDay, wrongDay(day)},
		fault{api.ErrNumber, p.wrongNumber(known)})
	if errno != api.OK {
		return nil, errno
	}
	var trial []api.Line
	for _, name := range slices.Sorted(maps.Keys(p.kinds)) {
		if n := p.sum(name, day, known); n != 0 {
			trial = append(trial, api.Line{Account: name, Amount: n})
		}
	}
	return trial, api.OK
}

func (p *plain) items(name string, from, to, known int) ([]api.Item, api.Errno) {
	errno := first(
		fault{api.ErrNone, p.missing(name)},
		fault{api.ErrDay, wrongDay(from) || wrongDay(to)},
		fault{api.ErrNumber, p.wrongNumber(known)})
	if errno != api.OK {
		return nil, errno
	}
	var items []api.Item
	for day := from; day <= to; day++ {
		for i, entry := range p.entries[:known] {
			if n := entry.lines[name]; n != 0 && entry.day == day {
				items = append(items, api.Item{Entry: i + 1, Day: day, Amount: n})
			}
		}
	}
	return items, api.OK
}

// drawing draws what calls are given, right and wrong.
type drawing struct{ *rand.Rand }

var (
	rightNames = []string{"a", "A", "b", "zz", "Löhne", "é", "e\u0301", "€", "!", "~~~~~~~~~~~~", "\U0010ffff", "c", "d"}
	wrongNames = []string{"", " ", "a b", "a\n", "\xff", "a\xc3", "\u00a0", "\ufffd", strings.Repeat("a", 13)}
	wrongs     = []int{-1, 10000, 1 << 32, 1<<32 + 1, greatest, least, 61}
)

func (d drawing) name() (string, bool) {
	if d.Intn(20) == 0 {
		return wrongNames[d.Intn(len(wrongNames))], false
	}
	return rightNames[d.Intn(len(rightNames))], true
}

// number is mostly below a bound.
func (d drawing) number(below int) int {
	if d.Intn(20) == 0 {
		return wrongs[d.Intn(len(wrongs))]
	}
	return d.Intn(below)
}

func (d drawing) day() int {
	if d.Intn(30) == 0 {
		return 9990 + d.Intn(10)
	}
	return d.number(12)
}

func (d drawing) amount() int {
	if d.Intn(30) == 0 {
		return []int{0, 1000000000, -1000000000, 1000000001, -1000000001, greatest, least}[d.Intn(7)]
	}
	return d.Intn(101) - 50
}

// lines mostly make 0 together.
func (d drawing) lines() []api.Line {
	count := 2 + d.Intn(3)
	if d.Intn(10) == 0 {
		count = d.Intn(9)
	}
	var lines []api.Line
	total := 0
	for range count {
		name, _ := d.name()
		lines = append(lines, api.Line{Account: name, Amount: d.amount()})
		total += lines[len(lines)-1].Amount
	}
	if count > 0 && d.Intn(10) > 0 {
		lines[count-1].Amount -= total
	}
	return lines
}

// TestP1Drawn: whatever is called in whatever order, a book answers as the
// plain one does; so the first error is told, and none changes anything.
func TestP1Drawn(t *testing.T) {
	for seed := range int64(150) {
		d := drawing{rand.New(rand.NewSource(seed))}
		b, p := annal.New(), &plain{kinds: map[string]int{}}
		for range 400 {
			drawnChange(t, d, b, p)
			drawnView(t, d, b, p)
			if t.Failed() {
				t.Fatalf("seed %d", seed)
			}
		}
	}
}

func drawnChange(t *testing.T, d drawing, b *annal.Book, p *plain) {
	t.Helper()
	if d.Intn(5) == 0 {
		name, right := d.name()
		kind := d.number(3)
		wantErrno(t, b.Open(name, kind), p.open(name, kind, right))
		return
	}
	day, lines := d.day(), d.lines()
	number, errno := p.post(day, lines)
	wantPost(t, b, day, lines, number, errno)
}

func drawnView(t *testing.T, d drawing, b *annal.Book, p *plain) {
	t.Helper()
	name, _ := d.name()
	from, to, known := d.day(), d.day(), d.number(len(p.entries)+2)
	balance, errno := p.balance(name, to, known)
	wantBalance(t, b, name, to, known, balance, errno)
	trial, errno := p.trial(to, known)
	wantTrial(t, b, to, known, trial, errno)
	items, errno := p.items(name, from, to, known)
	wantItems(t, b, name, from, to, known, items, errno)
}
