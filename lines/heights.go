package lines

import (
	"casement/api"
	"casement/ink"
	"casement/lengths"
)

// span: how far something stands above and below a line's base.
type span struct{ above, below int }

// spanOf the letters of an item, or of an atom.
func spanOf(it Item) span {
	if it.Kind == api.IAtom {
		return span{it.Base + it.Rise, it.H - it.Base - it.Rise}
	}
	ascent, descent := ink.Ascent(it.Size), ink.Descent(it.Size)
	high := heightOf(it.Size, it.High)
	above := ascent + lengths.Over(high-ascent-descent, 2)
	return span{above + it.Rise, high - above - it.Rise}
}

// around both spans.
func (s span) around(o span) span {
	return span{max(s.above, o.above), max(s.below, o.below)}
}

// heightOf lines of letters.
func heightOf(size, high int) int {
	if high < 0 {
		return lengths.Over(size*5, 4)
	}
	return high
}
