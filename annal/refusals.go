package annal

import (
	"slices"

	"annal/api"
)

// refusePost goes through all lines anew for each error, as an error that is
// named first is answered even if its line stands behind another wrong one.
func (b *Book) refusePost(day int, lines []api.Line) api.Errno {
	switch {
	case !isDay(day):
		return api.ErrDay
	case len(lines) < 2 || len(lines) > api.MaxLines:
		return api.ErrLines
	case slices.ContainsFunc(lines, b.isMissing):
		return api.ErrNone
	case anyTwice(lines):
		return api.ErrTwice
	case slices.ContainsFunc(lines, isWrongAmount):
		return api.ErrAmount
	case sum(lines) != 0:
		return api.ErrSum
	case b.isLocked(day):
		return api.ErrLocked
	case b.isFull():
		return api.ErrMany
	}
	return api.OK
}

func (b *Book) refuseReverse(entry int) api.Errno {
	switch {
	case entry < 1 || entry > len(b.entries):
		return api.ErrNone
	case b.isReversed(entry):
		return api.ErrReversed
	case b.isLocked(api.MaxDay):
		return api.ErrLocked
	case b.isFull():
		return api.ErrMany
	}
	return api.OK
}

// refuseClose is given nil if there is no account to close into.
func (b *Book) refuseClose(day int, into *account) api.Errno {
	switch {
	case !isDay(day):
		return api.ErrDay
	case into == nil:
		return api.ErrNone
	case into.kind == api.Flow:
		return api.ErrKind
	case b.isLocked(day):
		return api.ErrLocked
	case len(b.flowed(day)) == 0:
		return api.ErrNone
	case b.isFull():
		return api.ErrMany
	}
	return api.OK
}

// refuseView is for what is asked of the past.
func (b *Book) refuseView(known int, days ...int) api.Errno {
	for _, day := range days {
		if !isDay(day) {
			return api.ErrDay
		}
	}
	if known < 0 || known > len(b.entries) {
		return api.ErrNumber
	}
	return api.OK
}

func isDay(day int) bool { return day >= 0 && day <= api.MaxDay }

func (b *Book) isLocked(day int) bool { return day < b.unlocked }

func (b *Book) isFull() bool { return len(b.entries) >= api.MaxEntries }

// isReversed tells of an entry whether it was reversed or reverses another.
func (b *Book) isReversed(number int) bool {
	undoing := func(e entering) bool { return e.undoes() == number }
	return b.entries[number-1].undoes() != 0 || slices.ContainsFunc(b.entries, undoing)
}

func (b *Book) isMissing(line api.Line) bool { return b.find(line.Account) == nil }

func anyTwice(lines []api.Line) bool {
	for i, line := range lines {
		same := func(other api.Line) bool { return other.Account == line.Account }
		if slices.ContainsFunc(lines[:i], same) {
			return true
		}
	}
	return false
}

func isWrongAmount(line api.Line) bool {
	return line.Amount == 0 || line.Amount < -api.MaxAmount || line.Amount > api.MaxAmount
}
