package annal

import (
	"slices"
	"strconv"

	"annal/api"
)

// deed is something that was done and was answered OK.
type deed interface {
	words() []string // of its line in the text
}

// entering is a deed that wrote an entry.
type entering interface {
	deed
	entered() written
	undoes() int
}

// dated is what all deeds of a day have in common.
type dated struct{ day int }

func (d dated) dayWord() string { return strconv.Itoa(d.day) }

// written is what all entries have in common, whatever wrote them.
type written struct {
	dated
	lines []api.Line
}

func (w written) entered() written { return w }

// undoes is the number of the entry that this one reverses, or 0.
func (w written) undoes() int { return 0 }

type opening struct {
	name string
	kind int
}

type posting struct{ written }

type reversal struct {
	written
	undone int
}

func (r reversal) undoes() int { return r.undone }

type locking struct{ dated }

type closing struct {
	written
	into string
}

// enter writes an entry whose accounts are all there, and answers its number.
func (b *Book) enter(e entering) int {
	b.done = append(b.done, e)
	b.entries = append(b.entries, e)
	number, entry := len(b.entries), e.entered()
	for _, line := range entry.lines {
		item := api.Item{Entry: number, Day: entry.day, Amount: line.Amount}
		b.find(line.Account).past.Add(item)
	}
	return number
}

// posted keeps a copy of the lines, with the names that the accounts have: the
// list is the caller's, and its names may be pieces of a long text.
func (b *Book) posted(day int, lines []api.Line) posting {
	own := slices.Clone(lines)
	for i := range own {
		own[i].Account = b.find(own[i].Account).name
	}
	return posting{written{dated{day}, own}}
}

func (b *Book) reversed(number int) reversal {
	undone := b.entries[number-1].entered()
	day := max(undone.day, b.unlocked)
	return reversal{written{dated{day}, opposite(undone.lines)}, number}
}

func (b *Book) closed(day int, into *account) closing {
	flowed := b.flowed(day)
	lines := opposite(flowed)
	if had := sum(flowed); had != 0 {
		lines = append(lines, api.Line{Account: into.name, Amount: had})
	}
	return closing{written{dated{day}, lines}, into.name}
}

// flowed is what each Flow has on a day, known by all entries, if not 0.
func (b *Book) flowed(day int) []api.Line {
	trial, _ := b.Trial(day, len(b.entries))
	return slices.DeleteFunc(trial, b.isStock)
}

func (b *Book) isStock(line api.Line) bool {
	return b.find(line.Account).kind == api.Stock
}

func opposite(lines []api.Line) []api.Line {
	other := slices.Clone(lines)
	for i := range other {
		other[i].Amount = -other[i].Amount
	}
	return other
}

func sum(lines []api.Line) int {
	total := 0
	for _, line := range lines {
		total += line.Amount
	}
	return total
}
