// Package names says which texts may name an account.
package names

import (
	"unicode/utf8"

	"annal/api"
)

// Right tells whether a text is a name.
func Right(text string) bool {
	count := 0
	for _, c := range text {
		count++
		if count > api.MaxName || !allowed(c) {
			return false
		}
	}
	return count > 0
}

// allowed needs no check of its own for wrong UTF-8: a range over a string
// gives U+FFFD for each wrong byte, and that character is never allowed.
func allowed(c rune) bool {
	control := c >= 0x7f && c <= 0xa0
	return c > 0x20 && !control && c != utf8.RuneError
}
