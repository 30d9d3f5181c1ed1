package lines

import (
	"casement/api"
	"casement/ink"
)

// Modes of runs.
const (
	normal = iota
	nowrap
	pre
	preWrap
	preLine
)

// blank: the letter that every blank is.
const blank = ' '

// unit of a paragraph: a letter (its kind is IRun), an edge, an atom, or a forced end (IBreak, wherever it comes from).
type unit struct {
	kind, item, mode int
	letter           rune
	wide             int
}

func (u unit) edge() bool {
	return u.kind == api.IOpen || u.kind == api.IClose
}

// solid: a letter or an atom.
func (u unit) solid() bool {
	return u.kind == api.IRun || u.kind == api.IAtom
}

func (u unit) blank() bool {
	return u.kind == api.IRun && u.letter == blank
}

// spare: a blank that is left out at a line's end.
func (u unit) spare() bool {
	return u.blank() && u.mode != pre
}

// reader of items, which are told as units.
type reader struct {
	units []unit
	last  unit // the last one that is no edge; of kind 0: there is none
}

func unitsOf(l []Item) []unit {
	var r reader
	for at, it := range l {
		switch it.Kind {
		case api.IRun:
			r.run(at, it)
		case api.IOpen, api.IClose, api.IAtom:
			r.add(unit{kind: it.Kind, item: at, wide: it.W})
		case api.IBreak:
			r.add(unit{kind: api.IBreak, item: at})
		}
	}
	return r.units
}

func (r *reader) add(u unit) {
	r.units = append(r.units, u)
	if !u.edge() {
		r.last = u
	}
}

func (r *reader) run(at int, it Item) {
	mode := modeOf(it.Mode)
	for _, c := range it.Text {
		switch {
		case c == '\n' && keepsEnds(mode):
			r.end(at, mode)
			continue
		case isBlank(c):
			if r.goes(mode) {
				continue
			}
			c = blank
		}
		r.add(unit{api.IRun, at, mode, c, ink.Width(it.Size, string(c))})
	}
}

// end: a forced end within a run. Blanks behind it go as they do behind any end.
func (r *reader) end(at, mode int) {
	n := len(r.units)
	// Of blanks that stand together at most one is there still.
	if mode == preLine && n > 0 && r.units[n-1].item == at && r.units[n-1].blank() {
		r.units = r.units[:n-1]
	}
	r.add(unit{kind: api.IBreak, item: at})
}

// goes: whether a blank of that mode does, which would stand next.
func (r *reader) goes(mode int) bool {
	if !joinsBlanks(mode) {
		return false
	}
	switch r.last.kind {
	case 0, api.IBreak:
		return true
	}
	return r.last.blank() && joinsBlanks(r.last.mode)
}

func modeOf(n int) int {
	if n < normal || n > preLine {
		return normal
	}
	return n
}

// keepsEnds: whether ends of a text's lines are forced ends.
func keepsEnds(mode int) bool {
	return mode == pre || mode == preWrap || mode == preLine
}

// joinsBlanks: whether blanks that stand together are one.
func joinsBlanks(mode int) bool {
	return mode == normal || mode == nowrap || mode == preLine
}

// staysWhole: whether no line ends behind letters of that mode.
func staysWhole(mode int) bool {
	return mode == nowrap || mode == pre
}

func isBlank(c rune) bool {
	switch c {
	case '\t', '\n', '\f', '\r', ' ':
		return true
	}
	return false
}
