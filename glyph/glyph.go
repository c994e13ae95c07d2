// Package glyph is names, rune by rune: see DOC.md, chapter 1.
package glyph

import (
	"cmp"
	"strings"
	"unicode/utf8"

	"pointsman/api"
)

// The letters beyond a to z and A to Z: one range, with two signs in it that are none.
const (
	firstFarLetter rune = 0xC0
	lastFarLetter  rune = 0x24F
	timesSign      rune = 0xD7
	divisionSign   rune = 0xF7
)

const (
	space rune = 0x20
	tab   rune = 0x9
)

// rightErrorRune is how FFFD stands in a text that truly has it: a range tells a wrong byte as FFFD too.
const rightErrorRune = "\xEF\xBF\xBD"

// Letter tells whether a rune is a letter.
func Letter(r rune) bool {
	switch {
	case 'a' <= r && r <= 'z', 'A' <= r && r <= 'Z':
		return true
	case r == timesSign || r == divisionSign:
		return false
	}
	return firstFarLetter <= r && r <= lastFarLetter
}

// Width is how many runes there are; a wrong byte counts one.
func Width(s string) int {
	n := 0
	for range s {
		n++
	}
	return n
}

// IsName tells whether a text is a name.
func IsName(s string) bool {
	n := 0
	for _, r := range s {
		// A wrong byte comes as FFFD, which may stand nowhere in a name: it needs no look of its own.
		if n == api.MaxName || !mayStand(r, n) {
			return false
		}
		n++
	}
	return n > 0
}

// mayStand tells whether a rune may stand in a name with so many runes ahead of it.
func mayStand(r rune, ahead int) bool {
	return Letter(r) || ahead > 0 && digit(r)
}

func digit(r rune) bool { return '0' <= r && r <= '9' }

// Words is a line's words and -1; or none, and how many runes stand ahead of the first wrong byte.
func Words(s string) ([]api.Word, int) {
	if ahead, has := firstWrong(s); has {
		return nil, ahead
	}
	return split(s), -1
}

// firstWrong is how many runes stand ahead of the first wrong byte, if there is one.
func firstWrong(s string) (ahead int, has bool) {
	n := 0
	for i, r := range s {
		if r == utf8.RuneError && !strings.HasPrefix(s[i:], rightErrorRune) {
			return n, true
		}
		n++
	}
	return 0, false
}

// split is the words of a text that has no wrong byte.
func split(s string) []api.Word {
	var words []api.Word
	inside := false
	start, at, n := 0, 0, 0
	for i, r := range s {
		switch {
		case blank(r):
			if inside {
				words = append(words, newWord(s[start:i], at))
			}
			inside = false
		case !inside:
			inside, start, at = true, i, n
		}
		n++
	}
	if inside {
		words = append(words, newWord(s[start:], at))
	}
	return words
}

func blank(r rune) bool { return r == space || r == tab }

// newWord copies the text, for an answer shares no memory with what was handed in.
func newWord(text string, at int) api.Word {
	return api.Word{Text: strings.Clone(text), At: at}
}

// Cmp is -1, 0, 1: the order of two texts, rune by rune; a wrong byte is FFFD.
func Cmp(a, b string) int {
	for _, r := range a {
		if b == "" {
			return 1
		}
		other, size := utf8.DecodeRuneInString(b)
		if r != other {
			return cmp.Compare(r, other)
		}
		b = b[size:]
	}
	if b != "" {
		return -1
	}
	return 0
}
