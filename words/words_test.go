package words

import (
	"regexp"
	"slices"
	"strings"
	"testing"
)

var oneNumber = regexp.MustCompile(`^(0|-?[1-9][0-9]{0,9})$`)

// TestNumberAtShortTexts: every text of up to six of these characters.
func TestNumberAtShortTexts(t *testing.T) {
	texts := []string{""}
	for range 6 {
		var longer []string
		for _, text := range texts {
			_, right := number(text)
			if right != oneNumber.MatchString(text) {
				t.Errorf("number(%q): %v", text, right)
			}
			for _, c := range []string{"0", "1", "9", "-", "+", "_", "x"} {
				longer = append(longer, text+c)
			}
		}
		texts = longer
	}
}

func TestNumberIsTold(t *testing.T) {
	right := map[string]int{
		"0": 0, "7": 7, "-1": -1, "10": 10, "-100": -100, "9999": 9999, "1000000000": 1000000000,
		"9999999999": 9999999999, "-9999999999": -9999999999, "4294967296": 1 << 32,
	}
	for word, want := range right {
		if n, right := number(word); n != want || !right {
			t.Errorf("number(%q) = %d, %v", word, n, right)
		}
	}
	wrong := []string{
		"", "-", "-0", "00", "01", "-01", "+1", "--1", "1-", "1.0", "1e3", "0x1", "0b1", "1_0", " 1", "1 ", "1\r", "1\x00",
		"٣", "１", "−1", "12345678901", "-12345678901", "00000000001", "9223372036854775808", "18446744073709551617",
		strings.Repeat("1", 1<<20), "-" + strings.Repeat("0", 1<<20),
	}
	for _, word := range wrong {
		if _, right := number(word); right {
			t.Errorf("number(%.40q) is right", word)
		}
	}
}

func TestWordsAreBetweenBlanks(t *testing.T) {
	for _, text := range []string{"", " ", "a", " a", "a ", "a b", "a  b", "a\tb\u2003c", "é \xff  ", "o a 0"} {
		line := Of(text)
		var got []string
		for line.More() {
			got = append(got, line.Word())
		}
		if want := strings.Split(text, " "); !slices.Equal(got, want) || !line.Right() {
			t.Errorf("the words of %q are %q", text, got)
		}
	}
}

func TestRightIfAllIsTaken(t *testing.T) {
	line := Of("a -5 b")
	if line.Right() {
		t.Error("a line is right, though no word is taken")
	}
	if name := line.Name(); name != "a" || !line.More() || line.Right() {
		t.Errorf("the first name is %q", name)
	}
	if n := line.Number(); n != -5 || !line.More() || line.Right() {
		t.Errorf("the number is %d", n)
	}
	if name := line.Name(); name != "b" || line.More() || !line.Right() {
		t.Errorf("the last name is %q", name)
	}
	if word := line.Word(); word != "" || line.More() || line.Right() {
		t.Errorf("behind the last word there is %q", word)
	}
}

// TestWrongStaysWrong: whatever is taken behind a wrong word.
func TestWrongStaysWrong(t *testing.T) {
	number := func(l *Line) { l.Number() }
	name := func(l *Line) { l.Name() }
	wrong := map[string][]func(*Line){
		"a 5":           {number, number},
		"05 5":          {number, number},
		"05 5 5":        {number},
		"\x7f a":        {name, name},
		" a":            {name, name},
		"a  5":          {name, number, number},
		"a":             {name, name},
		"5":             {number, number},
		"a 5 ":          {name, number, name},
		"a\u00a0b 5":    {name, number},
		"a\n 5":         {name, number},
		"aaaabbbbccccd": {name},
	}
	for text, takes := range wrong {
		line := Of(text)
		for _, take := range takes {
			take(line)
		}
		if line.Right() || line.More() {
			t.Errorf("%q is right, or has more", text)
		}
	}
}
