package lines

import (
	"slices"
	"strings"

	"casement/api"
	"casement/ink"
)

// Letters that have a say in where lines may end beside atoms.
const (
	hardBlank = 0xA0
	joiner    = 0x2060
	atomSign  = 0xFFFC // stands for an atom in a text
)

// places in a piece without forced ends at which a line may end: numbers of the units with which the next one would begin.
func places(piece []unit) []int {
	solid, text := textOf(piece)
	told := ink.Breaks(text)
	var list []int
	n := 0
	for at := range text {
		if n > 0 {
			_, found := slices.BinarySearch(told, at)
			if mayEnd(piece[solid[n-1]], piece[solid[n]], found) {
				list = append(list, cut(piece, solid[n-1], solid[n]))
			}
		}
		n++
	}
	return list
}

// textOf a piece, and the number of the unit that each rune of it stands for.
func textOf(piece []unit) (solid []int, text string) {
	var b strings.Builder
	for at, u := range piece {
		switch u.kind {
		case api.IRun:
			b.WriteRune(u.letter)
		case api.IAtom:
			b.WriteRune(atomSign)
		default:
			continue
		}
		solid = append(solid, at)
	}
	return solid, b.String()
}

// mayEnd: whether a line may end between two letters or atoms; told: the text says so.
func mayEnd(ahead, behind unit, told bool) bool {
	switch {
	case ahead.kind == api.IRun && staysWhole(ahead.mode):
		return false
	case ahead.kind == api.IRun && behind.kind == api.IRun:
		return told
	case ahead.kind == api.IAtom && behind.kind == api.IRun && staysWhole(behind.mode):
		return false
	}
	return !holds(ahead) && !holds(behind)
}

// holds: a letter that an atom beside it stays with.
func holds(u unit) bool {
	return u.kind == api.IRun && (u.letter == hardBlank || u.letter == joiner)
}

// cut: the first unit of the next line, if one ends between two units that have edges alone between them.
func cut(piece []unit, ahead, behind int) int {
	for at := ahead + 1; at < behind; at++ {
		if piece[at].kind == api.IOpen {
			return at
		}
	}
	return behind
}
