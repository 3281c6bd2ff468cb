package annal_test

import (
	"strings"
	"testing"

	"annal/annal"
	"annal/api"
)

// wantReads answers the book of a text, which must be told as that again.
func wantReads(t *testing.T, text string) *annal.Book {
	t.Helper()
	b, number, errno := annal.Read(text)
	if b == nil || number != 0 || errno != api.OK {
		t.Fatalf("Read(%.300q) = %v, %d, %d", text, b, number, errno)
	}
	wantText(t, b, text)
	return b
}

func wantUnread(t *testing.T, text string, number int, errno api.Errno) {
	t.Helper()
	if b, n, e := annal.Read(text); b != nil || n != number || e != errno {
		t.Errorf("Read(%.300q) = %v, %d, %d, want %d, %d", text, b, n, e, number, errno)
	}
}

func TestP10Examples(t *testing.T) {
	wantUnread(t, "o a 0\nl 07\n", 2, api.ErrText)
	wantUnread(t, "l 7\nl 7\n", 2, api.ErrLocked)
	wantUnread(t, "p 1 a 5 b -5\n", 1, api.ErrNone)
	wantUnread(t, "l 7", 1, api.ErrText)
	b := wantReads(t, exampleText)
	wantItems(t, b, "Löhne", 0, 9999, 6, itemsOf(2, 3, 70, 4, 4, -70, 5, 5, -70, 6, 5, 70), api.OK)
	wantItems(t, b, "own", 0, 9999, 6, itemsOf(4, 4, 70, 6, 5, -70), api.OK)
	wantTrial(t, b, 5, 2, linesOf("Löhne", 70, "cash", -100, "rent", 30), api.OK)
}

func TestP10Empty(t *testing.T) {
	b := wantReads(t, "")
	wantTrial(t, b, 9999, 0, nil, api.OK)
	wantTrial(t, b, 9999, 1, nil, api.ErrNumber)
	wantErrno(t, b.Open("a", api.Stock), api.OK)
	wantErrno(t, b.Lock(0), api.OK)
	wantText(t, b, "o a 0\nl 0\n")
	wantText(t, wantReads(t, ""), "")
}

// TestP10RightForms: texts at the edges of what there may be.
func TestP10RightForms(t *testing.T) {
	for _, text := range []string{
		"l 0\n", "l 9999\n", "l 0\nl 1\nl 10\nl 9999\n",
		"o o 0\no p 1\no l 0\no c 1\no r 0\np 1 p 1 o -1\nc 1 l\n",
		"o 0 0\no -0 1\no 07 0\no -5 1\np 0 07 -5 -5 5\nc 0 0\n",
		"o !~ 0\no \u00a1\u2003\u2028\ufeff 1\no \U0010ffff 0\n",
		"o aaaabbbbcccc 0\no €€€€€€€€€€€€ 1\n",
		"o a 0\no b 0\np 9999 a 1000000000 b -1000000000\nr 1\n",
		"o a 0\no b 0\no c 0\no d 0\no e 0\no f 0\np 1 f 1 e 2 d 3 c 4 b 5 a -15\n",
	} {
		wantReads(t, text)
	}
}

// wrongHead is a right text of six lines; the days up to 4 are locked.
const wrongHead = "o a 0\no b 1\no c 0\np 5 a 5 c -5\np 6 a 5 b -5\nl 4\n"

// wantRefused reads lines behind a right text; what stands behind them is not
// looked at.
func wantRefused(t *testing.T, errno api.Errno, lines ...string) {
	t.Helper()
	wantReads(t, wrongHead)
	for _, line := range lines {
		for _, rest := range []string{"", "\n", "l 7\n", "what", "o d 2\n"} {
			wantUnread(t, wrongHead+line+"\n"+rest, 7, errno)
		}
	}
}

func TestP10NoForm(t *testing.T) {
	wantRefused(t, api.ErrText, "", " ", "  ", "\t", "\r", "\x00", "x", "O d 0", "P 7", "x 7", "oo d 0", "ö d 0", "\xff",
		"0", "7", "d", "open d 0", "\ufeffl 7", "l", "r", "c", "o", "p", "l ", "r ", "c ", "o ", "p ", "# note")
}

// TestP10FormOfOpening and those behind it: words that are too few, too many,
// in another order or with other blanks, and words that are none of their kind.
func TestP10FormOfOpening(t *testing.T) {
	wantRefused(t, api.ErrText, "o d", "o 0", "o d 0 0", "o d 0 d", "o 0 d", "o d d", "o  d 0", "o d  0", " o d 0", "o d 0 ",
		"o d 0\r", "o d\t0", "o\td 0", "od 0", "o d0", "o d 00", "o d 01", "o d +0", "o d -0", "o d -01", "o d 0x1", "o d 1.0",
		"o d 12345678901", "o d -12345678901", "o d 00000000001", "o d -", "o d --1", "o d ٠",
		"o  0", "o \x00 0", "o \t 0", "o \x1f 0", "o \x7f 0", "o \u0080 0", "o \u00a0 0", "o d\u00a0 0", "o \ufffd 0",
		"o \xff 0", "o d\xc3 0", "o \xed\xa0\x80 0", "o aaaabbbbccccd 0", "o €€€€€€€€€€€€€ 0", "o aaaabbbbccccd 2")
}

func TestP10FormOfPosting(t *testing.T) {
	wantRefused(t, api.ErrText, "p x", "p a 5 c -5", "p 7 a", "p 7 a 5 c", "p 7 5", "p 7 5 a -5 c", "p 7 a c 5 -5", "p 7 7 a 5 c -5",
		"p 07 a 5 c -5", "p +7 a 5 c -5", "p -0 a 5 c -5", "p 7 a 05 c -5", "p 7 a 5 c -05", "p 7 a +5 c -5", "p 7 a -0 c 0",
		"p 7 a 5 c - 5", "p 7  a 5 c -5", "p 7 a  5 c -5", "p 7 a 5  c -5", "p 7 a 5 c -5 ", "p  7 a 5 c -5", " p 7 a 5 c -5",
		"p 7 a 5 c -5\r", "p 7 a 5\tc -5", "p 7 ", "p 12345678901", "p 7 a 12345678901 c -5", "p 7 a 5 c -00000000005",
		"p 7 a 5 \xff -5", "p 7 \x7f 5 c -5", "p 7 a 5 aaaabbbbccccd -5", "p 7 a 5 c -5 b", "p 7 a 5 c -5 5",
		"p 10000 a 5 c x", "p -1 a", "p 7 a 5 d", "p 4 a 5 c -5 x y", "p7 a 5 c -5")
	wantRefused(t, api.ErrText, "p 7"+strings.Repeat(" a 5", 100)+" a", "p 7"+strings.Repeat(" a 5", 100)+" a 05")
}

func TestP10FormOfReversal(t *testing.T) {
	wantRefused(t, api.ErrText, "r x", "r 01", "r +1", "r -0", "r 1 1", "r 1 a", "r a 1", "r  1", "r 1 ", " r 1", "r1", "r 1\r",
		"r 12345678901", "r 0 0")
}

func TestP10FormOfLock(t *testing.T) {
	wantRefused(t, api.ErrText, "l x", "l 07", "l +7", "l -0", "l 7 7", "l 7 a", "l a 7", "l  7", "l 7 ", " l 7", "l7", "l 7\r",
		"l 12345678901", "l 7 8 9", "l 4 4", "L 7")
}

func TestP10FormOfClosing(t *testing.T) {
	wantRefused(t, api.ErrText, "c 7", "c a", "c a 7", "c 7 a a", "c 7 a 7", "c 7 7 a", "c  7 a", "c 7  a", "c 7 a ", " c 7 a",
		"c 07 a", "c +7 a", "c -0 a", "c 7 ", "c 7 \x7f", "c 7 \xff", "c 7 \u00a0", "c 7 aaaabbbbccccd", "c 12345678901 a",
		"c 10000 \xff", "c7 a", "c 7 a\r", "c 7\ta")
}

// TestP10Answers: lines of the right form that would be answered otherwise.
func TestP10Answers(t *testing.T) {
	wantRefused(t, api.ErrKind, "o d 2", "o d -1", "o d 9999999999", "o d -9999999999", "o d 4294967296", "o a 2", "c 7 b", "c 4 b")
	wantRefused(t, api.ErrThere, "o a 0", "o a 1", "o b 0")
	wantRefused(t, api.ErrDay, "p -1", "p 10000", "p 10000 a 5 c -5", "p -9999999999 d 0", "p 4294967296 a 5 c -5",
		"l -1", "l 10000", "l 9999999999", "c -1 a", "c 10000 a", "c 10000 d", "c 10000 b")
	wantRefused(t, api.ErrLines, "p 7", "p 7 a 5", "p 4", "p 7 d 0", "p 7 a 1 a 1 a 1 a 1 a 1 a 1 a 1",
		"p 7"+strings.Repeat(" a 0", 1000))
	wantRefused(t, api.ErrNone, "p 7 a 5 d -5", "p 7 d 0 d 0", "p 4 a 5 A -5", "r 0", "r 3", "r -1", "r 9999999999", "r 4294967297",
		"c 7 d", "c 4 d", "c 5 a", "c 5 c")
	wantRefused(t, api.ErrTwice, "p 7 a 5 a -5", "p 4 a 0 a 0")
	wantRefused(t, api.ErrAmount, "p 7 a 0 c 0", "p 7 a 1000000001 c -1000000001", "p 7 a 5 c 0", "p 7 a 9999999999 c -9999999999",
		"p 7 a 4294967297 c -1", "p 4 a 0 c 5")
	wantRefused(t, api.ErrSum, "p 7 a 5 c -6", "p 7 a 5 c 5", "p 4 a 1000000000 c 1000000000")
	wantRefused(t, api.ErrLocked, "p 4 a 5 c -5", "p 0 a 5 c -5", "l 4", "l 0", "c 4 a", "c 0 c")
}

// TestP10AnswersOfLaterLines: these hang on what the lines before have done.
func TestP10AnswersOfLaterLines(t *testing.T) {
	wantUnread(t, wrongHead+"r 1\nr 1\n", 8, api.ErrReversed)
	wantUnread(t, wrongHead+"r 1\nr 3\n", 8, api.ErrReversed)
	wantUnread(t, wrongHead+"l 9999\nr 1\n", 8, api.ErrLocked)
	wantUnread(t, wrongHead+"c 6 a\nc 7 a\n", 8, api.ErrNone)
	wantUnread(t, wrongHead+"c 6 a\nl 6\n", 8, api.ErrLocked)
	wantUnread(t, wrongHead+"c 6 a\nr 3\nc 7 a\nr 3\n", 10, api.ErrReversed)
	accounts := "o 1 0\no 2 1\no 3 0\no 4 0\no 5 0\no 6 0\no 7 0\no 8 0\no 9 0\no 10 0\n"
	wantUnread(t, accounts+"o 11 0\n", 11, api.ErrMany)
	wantUnread(t, accounts+"o 10 0\n", 11, api.ErrThere)
	full := accounts + strings.Repeat("p 5 1 1 2 -1\n", 60)
	wantReads(t, full)
	for _, line := range []string{"p 5 1 1 2 -1\n", "r 60\n", "c 5 1\n"} {
		wantUnread(t, full+line, 71, api.ErrMany)
	}
}

// TestP10FirstWrongLine: of several, the first one is told, of whatever error.
func TestP10FirstWrongLine(t *testing.T) {
	wantUnread(t, "what\nl 7\nl 7\n", 1, api.ErrText)
	wantUnread(t, "l 7\nl 7\nwhat\n", 2, api.ErrLocked)
	wantUnread(t, "l 7\n\nl 7\n", 2, api.ErrText)
	wantUnread(t, "l 7\nl 6\nl 5", 2, api.ErrLocked)
	wantUnread(t, "l 7\nl 8\nl 9\n\n", 4, api.ErrText)
	wantUnread(t, "\n", 1, api.ErrText)
	wantUnread(t, "\nl 7\n", 1, api.ErrText)
	wantUnread(t, "l 7\r\nl 8\r\n", 1, api.ErrText)
}

// TestP10CutOff: a text is one up to the end of each line, and nowhere else.
func TestP10CutOff(t *testing.T) {
	for end := range len(exampleText) {
		text := exampleText[:end]
		if text == "" || strings.HasSuffix(text, "\n") {
			wantReads(t, text)
		} else {
			wantUnread(t, text, strings.Count(text, "\n")+1, api.ErrText)
		}
	}
	wantUnread(t, "l 7\nl 7", 2, api.ErrText)
	wantUnread(t, "l 7\nl", 2, api.ErrText)
	wantUnread(t, "l 7\n ", 2, api.ErrText)
	wantUnread(t, "l 7\n\x00", 2, api.ErrText)
}

func TestP10LongTexts(t *testing.T) {
	const much = 1 << 21
	wantUnread(t, strings.Repeat("l", much), 1, api.ErrText)
	wantUnread(t, strings.Repeat(" ", much)+"\n", 1, api.ErrText)
	wantUnread(t, strings.Repeat("\n", much), 1, api.ErrText)
	wantUnread(t, strings.Repeat("l 7\n", much), 2, api.ErrLocked)
	wantUnread(t, "l "+strings.Repeat("7", much)+"\n", 1, api.ErrText)
	wantUnread(t, "o "+strings.Repeat("a", much)+" 0\n", 1, api.ErrText)
	wantUnread(t, "p 7"+strings.Repeat(" a 5", much)+"\n", 1, api.ErrLines)
	wantUnread(t, "p 7"+strings.Repeat(" a 5", much)+" \n", 1, api.ErrText)
}

// TestP10GoesOn: a book that is read again answers as the first one does, and
// both go on as the plain one does, and are told alike.
func TestP10GoesOn(t *testing.T) {
	for seed := range int64(60) {
		d, b, p := beginning(seed)
		for range 20 + d.Intn(120) {
			drawnChange(t, d, b, p)
		}
		again := wantReads(t, b.Write())
		for known := range len(p.entries) + 1 {
			wantSight(t, again, rightNames, known, see(b, rightNames, known))
		}
		before := p.text
		for range 60 {
			drawnChange(t, d, again, p)
			drawnView(t, d, again, p)
		}
		wantText(t, again, p.text)
		wantText(t, b, before)
		if t.Failed() {
			t.Fatalf("seed %d", seed)
		}
	}
}

// TestP10Spoilt: texts of drawn books with some faults are read as the plain
// book reads them.
func TestP10Spoilt(t *testing.T) {
	met := map[api.Errno]int{}
	for seed := range int64(4000) {
		d, b, p := beginning(seed)
		for range 15 + d.Intn(300) {
			drawnChange(t, d, b, p)
		}
		text := p.text
		for range 1 + d.Intn(3) {
			text = d.spoilt(text)
		}
		p, number, errno := plainRead(text)
		met[errno]++
		if errno != api.OK {
			wantUnread(t, text, number, errno)
		} else {
			again := wantReads(t, text)
			wantTrial(t, again, 9999, len(p.entries), linesOfPlain(p), api.OK)
		}
		if t.Failed() {
			t.Fatalf("seed %d", seed)
		}
	}
	for errno := api.OK; errno <= api.ErrText; errno++ {
		never := errno == api.ErrName || errno == api.ErrNumber
		if (met[errno] == 0) != never {
			t.Errorf("the error %d was met %d times", errno, met[errno])
		}
	}
}

func linesOfPlain(p *plain) []api.Line {
	lines, _ := p.trial(9999, len(p.entries))
	return lines
}

// spoilt changes a byte, a word, a line or the end of a text.
func (d drawing) spoilt(text string) string {
	switch d.Intn(7) {
	case 0:
		return text[:d.Intn(len(text)+1)]
	case 1:
		at := d.Intn(len(text) + 1)
		return text[:at] + d.piece() + text[at:]
	case 2:
		at := d.Intn(len(text) + 1)
		return text[:at] + text[min(at+1, len(text)):]
	case 3:
		return d.exchanged(text, "\n", d.line())
	case 4:
		return d.exchanged(text, "\n", d.line()+"\n"+d.line())
	}
	return d.exchanged(text, " ", d.piece())
}

// exchanged has another piece in the place of one of those that are parted so.
func (d drawing) exchanged(text, parted, other string) string {
	pieces := strings.Split(text, parted)
	at := d.Intn(len(pieces))
	pieces[at] = other
	return strings.Join(pieces, parted)
}

func (d drawing) piece() string {
	pieces := []string{"", "0", "1", "2", "3", "5", "7", "-1", "-5", "07", "-0", "9999", "10000", "9999999999", "-12345678901",
		"a", "b", "zz", "new", "é", "\xff", "\u00a0", " ", "  ", "\n", "\r", "x 5", "5 x", "0\nl 9999", "1\nr 1"}
	return pieces[d.Intn(len(pieces))]
}

func (d drawing) line() string {
	lines := []string{"", " ", "l 1", "l 9999", "l 10000", "r 1", "r 2", "r 60", "c 5 a", "c 9999 b", "c 9999 A", "o new 0", "o a 1", "o b 2",
		"p 9999 a 1 b -1", "p 9999 a 1 a -1", "p 9999 a 0 b 0", "p 9999 a 1 b 1", "p 9999 a 1", "p 0 a 1 A -1", "p 9999 a 1 b -1 "}
	return lines[d.Intn(len(lines))]
}
