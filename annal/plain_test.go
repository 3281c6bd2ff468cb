package annal_test

import (
	"maps"
	"slices"

	"annal/api"
)

// plain is a book as simple as can be: all entries are gone through for
// whatever is asked.
type plain struct {
	kinds   map[string]int
	entries []plainEntry
	locked  [10000]bool
	text    string
}

func newPlain() *plain { return &plain{kinds: map[string]int{}} }

// plainEntry is at an end if it was reversed or reverses another one.
type plainEntry struct {
	day   int
	lines map[string]int
	ended bool
}

// fault is an error, and whether it applies.
type fault struct {
	errno   api.Errno
	applies bool
}

func first(faults ...fault) api.Errno {
	for _, f := range faults {
		if f.applies {
			return f.errno
		}
	}
	return api.OK
}

func wrongDay(day int) bool { return day < 0 || day > 9999 }

func (p *plain) missing(name string) bool {
	_, there := p.kinds[name]
	return !there
}

func (p *plain) open(name string, kind int, right bool) api.Errno {
	errno := first(
		fault{api.ErrName, !right},
		fault{api.ErrKind, kind != 0 && kind != 1},
		fault{api.ErrThere, !p.missing(name)},
		fault{api.ErrMany, len(p.kinds) == 10})
	if errno == api.OK {
		p.kinds[name] = kind
		p.note("o %s %d", name, kind)
	}
	return errno
}

func (p *plain) post(day int, lines []api.Line) (int, api.Errno) {
	none, amount, total := false, false, 0
	amounts := map[string]int{}
	for _, line := range lines {
		none = none || p.missing(line.Account)
		amount = amount || line.Amount == 0 || line.Amount > 1000000000 || line.Amount < -1000000000
		amounts[line.Account] += line.Amount
		total += line.Amount
	}
	errno := first(
		fault{api.ErrDay, wrongDay(day)},
		fault{api.ErrLines, len(lines) < 2 || len(lines) > 6},
		fault{api.ErrNone, none},
		fault{api.ErrTwice, len(amounts) < len(lines)},
		fault{api.ErrAmount, amount},
		fault{api.ErrSum, total != 0},
		fault{api.ErrLocked, p.isLocked(day)},
		fault{api.ErrMany, len(p.entries) == 60})
	if errno != api.OK {
		return 0, errno
	}
	p.note("p %d%s", day, wordsOf(lines))
	return p.enter(day, amounts, false), api.OK
}

func (p *plain) enter(day int, amounts map[string]int, ended bool) int {
	p.entries = append(p.entries, plainEntry{day, amounts, ended})
	return len(p.entries)
}

func (p *plain) isLocked(day int) bool { return !wrongDay(day) && p.locked[day] }

// openDay is the first day from this one on that is not locked, or 10000.
func (p *plain) openDay(day int) int {
	for day < 10000 && p.locked[day] {
		day++
	}
	return day
}

func (p *plain) reverse(entry int) (int, api.Errno) {
	if entry < 1 || entry > len(p.entries) {
		return 0, api.ErrNone
	}
	undone := p.entries[entry-1]
	day := p.openDay(undone.day)
	errno := first(
		fault{api.ErrReversed, undone.ended},
		fault{api.ErrLocked, day == 10000},
		fault{api.ErrMany, len(p.entries) == 60})
	if errno != api.OK {
		return 0, errno
	}
	amounts := map[string]int{}
	for name, amount := range undone.lines {
		amounts[name] = -amount
	}
	p.entries[entry-1].ended = true
	p.note("r %d", entry)
	return p.enter(day, amounts, true), api.OK
}

func (p *plain) lock(day int) api.Errno {
	errno := first(
		fault{api.ErrDay, wrongDay(day)},
		fault{api.ErrLocked, p.isLocked(day)})
	if errno == api.OK {
		p.lockTo(day)
		p.note("l %d", day)
	}
	return errno
}

func (p *plain) lockTo(day int) {
	for i := range day + 1 {
		p.locked[i] = true
	}
}

func (p *plain) close(day int, into string) (int, api.Errno) {
	amounts := map[string]int{}
	for name, kind := range p.kinds {
		if n := p.sum(name, day, len(p.entries)); kind == 1 && n != 0 {
			amounts[name] -= n
			amounts[into] += n
		}
	}
	errno := first(
		fault{api.ErrDay, wrongDay(day)},
		fault{api.ErrNone, p.missing(into)},
		fault{api.ErrKind, p.kinds[into] == 1},
		fault{api.ErrLocked, p.isLocked(day)},
		fault{api.ErrNone, len(amounts) == 0},
		fault{api.ErrMany, len(p.entries) == 60})
	if errno != api.OK {
		return 0, errno
	}
	number := p.enter(day, amounts, false)
	p.lockTo(day)
	p.note("c %d %s", day, into)
	return number, api.OK
}

func (p *plain) wrongNumber(known int) bool { return known < 0 || known > len(p.entries) }

func (p *plain) sum(name string, day, known int) int {
	total := 0
	for _, entry := range p.entries[:known] {
		if entry.day <= day {
			total += entry.lines[name]
		}
	}
	return total
}

func (p *plain) balance(name string, day, known int) (int, api.Errno) {
	errno := first(
		fault{api.ErrNone, p.missing(name)},
		fault{api.ErrDay, wrongDay(day)},
		fault{api.ErrNumber, p.wrongNumber(known)})
	if errno != api.OK {
		return 0, errno
	}
	return p.sum(name, day, known), api.OK
}

func (p *plain) trial(day, known int) ([]api.Line, api.Errno) {
	errno := first(
		fault{api.ErrDay, wrongDay(day)},
		fault{api.ErrNumber, p.wrongNumber(known)})
	if errno != api.OK {
		return nil, errno
	}
	var trial []api.Line
	for _, name := range slices.Sorted(maps.Keys(p.kinds)) {
		if n := p.sum(name, day, known); n != 0 {
			trial = append(trial, api.Line{Account: name, Amount: n})
		}
	}
	return trial, api.OK
}

func (p *plain) items(name string, from, to, known int) ([]api.Item, api.Errno) {
	errno := first(
		fault{api.ErrNone, p.missing(name)},
		fault{api.ErrDay, wrongDay(from) || wrongDay(to)},
		fault{api.ErrNumber, p.wrongNumber(known)})
	if errno != api.OK {
		return nil, errno
	}
	var items []api.Item
	for day := from; day <= to; day++ {
		for i, entry := range p.entries[:known] {
			if n := entry.lines[name]; n != 0 && entry.day == day {
				items = append(items, api.Item{Entry: i + 1, Day: day, Amount: n})
			}
		}
	}
	return items, api.OK
}
