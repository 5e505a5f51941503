package name

import "strings"

// The runes that matter to names.
const (
	blank   = ' ' // those below it have no shape
	slash   = '/'
	erase   = 0x7F
	unknown = 0xFFFD // a rune of its own, and what stands for a byte that is part of none
)

// small is how far a small letter stands behind its capital.
const small = 'a' - 'A'

// unread tells whether r, with which a text was found to begin, stands for a
// byte that is part of no rune. Where that rune was written itself, it has its
// own bytes.
func unread(s string, r rune) bool {
	return r == unknown && !strings.HasPrefix(s, "\uFFFD")
}

// blankOutside tells whether a text's first or last rune is a blank.
func blankOutside(s string) bool {
	return strings.HasPrefix(s, " ") || strings.HasSuffix(s, " ")
}

// allMayBe tells whether a name may have each of a text's runes.
func allMayBe(s string) bool {
	for _, r := range s {
		if r < blank || r == slash || r == erase || r == unknown {
			return false
		}
	}
	return true
}

// folded is a rune's fold.
func folded(r rune) rune {
	if 'A' <= r && r <= 'Z' {
		return r + small
	}
	return r
}
