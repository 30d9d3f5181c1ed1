package lines

import (
	"slices"

	"casement/api"
	"casement/ink"
)

// Where lines begin in their room.
const (
	alignRight   = 1
	alignCenter  = 2
	alignJustify = 3
)

// set a line of units, so wide without the blanks at its end; last: it ends a piece.
func (s *setter) set(units []unit, wide int, r room, last bool) {
	units = shown(units)
	free := max(r.wide-wide, 0)
	l := Line{Y: s.y, X: r.left, W: wide}
	switch s.para.Align {
	case alignRight:
		l.X += free
	case alignCenter:
		l.X += free / 2
	case alignJustify:
		if !last {
			l.W += widen(units, free)
		}
	}
	l.Frags = frags(units, l.X)
	s.raise(&l)
	s.y += l.H
	s.lines = append(s.lines, l)
}

// shown: the units of a line, in new memory, without its forced end and without the blanks that are left out.
func shown(units []unit) []unit {
	end := len(units)
	for end > 0 && (!units[end-1].solid() || units[end-1].spare()) {
		end--
	}
	kept := slices.Clone(units[:end])
	for _, u := range units[end:] {
		if u.edge() {
			kept = append(kept, u)
		}
	}
	return kept
}

// widen the blanks of a line, if it has any, by what is free; how much wider the line is then.
func widen(units []unit, free int) int {
	var blanks []int
	for at, u := range units {
		if u.blank() {
			blanks = append(blanks, at)
		}
	}
	given := 0
	for k, at := range blanks {
		// Up to each blank all of its share is given: nothing is lost by rounding.
		upTo := free * (k + 1) / len(blanks)
		units[at].wide += upTo - given
		given = upTo
	}
	return given
}

// frags of a line that begins at x. Units of one item stand together: they are its letters, or itself.
func frags(units []unit, x int) []Frag {
	var list []Frag
	for len(units) > 0 {
		n := together(units)
		f := frag(units[:n], x)
		list = append(list, f)
		x += f.W
		units = units[n:]
	}
	return list
}

// together: how many units there are of the first one's item.
func together(units []unit) int {
	n := 1
	for n < len(units) && units[n].item == units[0].item {
		n++
	}
	return n
}

func frag(units []unit, x int) Frag {
	f := Frag{Item: units[0].item, X: x}
	var letters []rune
	for _, u := range units {
		f.W += u.wide
		if u.kind == api.IRun {
			letters = append(letters, u.letter)
		}
	}
	f.Text = string(letters)
	return f
}

// raise: how high a line is, where its base lies, and how high its fragments stand.
func (s *setter) raise(l *Line) {
	all := spanOf(Item{Kind: api.IRun, Size: s.para.Size, High: s.para.High})
	for _, f := range l.Frags {
		if it := s.items[f.Item]; it.Kind == api.IRun || it.Kind == api.IAtom {
			all = all.around(spanOf(it))
		}
	}
	l.Base = l.Y + all.above
	l.H = max(all.above+all.below, 0)
	for n, f := range l.Frags {
		l.Frags[n].Y, l.Frags[n].H = stand(s.items[f.Item], l.Base)
	}
}

// stand: where letters, an atom or an edge begin on a base, and how high they are.
func stand(it Item, base int) (y, h int) {
	switch it.Kind {
	case api.IRun:
		ascent := ink.Ascent(it.Size)
		return base - ascent - it.Rise, ascent + ink.Descent(it.Size)
	case api.IAtom:
		return base - it.Base - it.Rise, it.H
	}
	return base, 0
}
