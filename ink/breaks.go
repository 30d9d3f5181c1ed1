package ink

import (
	"casement/api"
)

// Runes that have a say in where lines may end.
const (
	none       = -1 // ahead of the first rune: no rune is it, so no rule holds there
	blank      = 0x20
	dash       = 0x2D
	hyphen     = 0x2010
	softHyphen = 0xAD
	hardBlank  = 0xA0
	thinBlank  = 0x200B
	joiner     = 0x2060
)

// Breaks: the places in a text at which a line may end.
func Breaks(text string) []int {
	var out []int
	last := [2]rune{none, none}
	for at, r := range text {
		if mayEnd(last, r) {
			out = append(out, at)
		}
		last = [2]rune{last[1], r}
	}
	return out
}

// mayEnd: whether a line may end behind the last two runes, ahead of b.
func mayEnd(last [2]rune, b rune) bool {
	a := last[1]
	if holds(a) || holds(b) {
		return false
	}
	switch a {
	case blank:
		return b != blank
	case thinBlank, softHyphen:
		return true
	case dash, hyphen:
		return (letter(last[0]) || digit(last[0])) && letter(b)
	}
	return api.Wide(a) && api.Wide(b) && !opens(a) && !closes(b)
}

// holds: a rune at which no line ends, whatever stands on its other side.
func holds(r rune) bool {
	return r == hardBlank || r == joiner
}

// letter: one as the chapter counts them; 0xD7 and 0xF7 are signs of sums among them.
func letter(r rune) bool {
	switch {
	case r >= 'a' && r <= 'z', r >= 'A' && r <= 'Z':
		return true
	case r == 0xD7, r == 0xF7:
		return false
	}
	return r >= 0xC0 && r <= 0x24F
}

func digit(r rune) bool {
	return r >= '0' && r <= '9'
}

// opens: a wide mark that stays with what is behind it.
func opens(r rune) bool {
	switch r {
	case 0x300C, 0x300E, 0xFF08:
		return true
	}
	return false
}

// closes: a wide mark that stays with what is ahead of it.
func closes(r rune) bool {
	switch r {
	case 0x3001, 0x3002, 0x300D, 0x300F, 0xFF09, 0xFF0C:
		return true
	}
	return false
}
