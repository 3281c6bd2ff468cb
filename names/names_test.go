package names

import (
	"strings"
	"testing"
	"unicode/utf8"

	"annal/api"
)

func TestRightAtEveryCharacter(t *testing.T) {
	for c := rune(0); c <= utf8.MaxRune; c++ {
		if !utf8.ValidRune(c) {
			continue
		}
		want := c > 0x20 && c != 0x7f && (c < 0x80 || c > 0xa0) && c != 0xfffd
		for _, s := range []string{string(c), "a" + string(c), string(c) + "é"} {
			if Right(s) != want {
				t.Errorf("Right(%q) = %v", s, !want)
			}
		}
	}
}

func TestRightAtLengths(t *testing.T) {
	for _, c := range []string{"a", "ö", "€", "\U0001f4d2"} {
		for n := range 40 {
			want := n >= 1 && n <= api.MaxName
			if s := strings.Repeat(c, n); Right(s) != want {
				t.Errorf("Right(%q) = %v", s, !want)
			}
		}
	}
	if Right(strings.Repeat("a", 1<<20)) {
		t.Error("a very long text is a name")
	}
}

func TestRightAtWrongUTF8(t *testing.T) {
	wrong := []string{
		"\x80", "\xbf", "\xff", "\xc3", "\xe2\x82", "\xf0\x9f\x93", // stray or cut off
		"\xc1\xa1", "\xe0\x81\xa1", "\xf0\x80\x81\xa1", // 'a', overlong
		"\xed\xa0\x80", "\xed\xbf\xbf", // surrogates
		"\xf4\x90\x80\x80", "\xf8\x88\x80\x80\x80", // above U+10FFFF
	}
	for _, w := range wrong {
		for _, s := range []string{w, "a" + w, w + "a", "Löh" + w + "ne"} {
			if Right(s) {
				t.Errorf("Right(%q) = true", s)
			}
		}
	}
}
