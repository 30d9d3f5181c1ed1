package lines

import (
	"slices"
	"sort"

	"casement/api"
)

// stop: where a line may stop, in a piece of units. Widths are those of the piece, from its first unit on.
type stop struct {
	next  int // the unit with which the next line begins
	all   int // the width of all units ahead of that
	shown int // without the blanks that are left out if a line stops here
	least int // the least shown of this stop and those behind it
}

// setter of a paragraph's lines.
type setter struct {
	para  Para
	items []Item
	units []unit
	y     int
	lines []Line
}

// fill lines with units, one piece after the other, each up to its forced end.
func (s *setter) fill() {
	for slices.ContainsFunc(s.units, counts) {
		end := pieceEnd(s.units)
		s.piece(s.units[:end])
		s.units = s.units[end:]
	}
}

// counts: whether there is a line for a unit, if there is nothing else.
func counts(u unit) bool {
	return !u.edge() || u.wide != 0
}

// pieceEnd: behind the first forced end, or behind all.
func pieceEnd(units []unit) int {
	for at, u := range units {
		if u.kind == api.IBreak {
			return at + 1
		}
	}
	return len(units)
}

// piece: its lines. Behind each place where a line may end is a letter or an atom: there is a line for all that is left.
func (s *setter) piece(piece []unit) {
	stops := stopsOf(piece)
	from, ahead := 0, 0
	for len(stops) > 0 {
		n, r := s.choose(stops, ahead)
		at := stops[n]
		s.set(piece[from:at.next], at.shown-ahead, r, n == len(stops)-1)
		from, ahead, stops = at.next, at.all, stops[n+1:]
	}
}

// stopsOf a piece: the last one is its end.
func stopsOf(piece []unit) []stop {
	var list []stop
	ends := places(piece)
	all, spare := 0, 0
	for at, u := range piece {
		if len(ends) > 0 && ends[0] == at {
			list = append(list, stop{next: at, all: all, shown: all - spare})
			ends = ends[1:]
		}
		all += u.wide
		switch {
		case u.spare():
			spare += u.wide
		case u.solid():
			spare = 0
		}
	}
	shown := all - spare
	list = append(list, stop{len(piece), all, shown, shown})
	for at := len(list) - 2; at >= 0; at-- {
		list[at].least = min(list[at].shown, list[at+1].least)
	}
	return list
}

// choose the stop of a line that begins behind what is so wide; y goes down to where there is room for one.
func (s *setter) choose(stops []stop, ahead int) (int, room) {
	for {
		r := s.room()
		if n := lastFit(stops, ahead+r.wide); n >= 0 {
			return n, r
		}
		if !r.holed {
			return 0, r
		}
		s.y = r.low
	}
}

// lastFit: the last stop that shows no more than so much; below 0: none does. Edges may be less than nothing wide, so one that fits may stand behind one that does not.
func lastFit(stops []stop, most int) int {
	return sort.Search(len(stops), func(n int) bool { return stops[n].least > most }) - 1
}

// room for a line.
type room struct {
	left, wide int
	holed      bool // a hole reaches into the line
	low        int  // the least Bottom of those that do
}

func (s *setter) room() room {
	var r room
	right := 0
	for _, h := range s.para.Holes {
		if !s.reaches(h) {
			continue
		}
		if !r.holed {
			r, right = room{holed: true, left: h.Left, low: h.Bottom}, h.Right
		}
		r.left, right, r.low = max(r.left, h.Left), max(right, h.Right), min(r.low, h.Bottom)
	}
	if len(s.lines) == 0 {
		r.left += s.para.Indent
	}
	r.wide = s.para.Width - r.left - right
	return r
}

// reaches: whether a hole does into a line that begins at y, and is as high as the strut.
func (s *setter) reaches(h Hole) bool {
	return h.Top < s.y+max(heightOf(s.para.Size, s.para.High), 1) && h.Bottom > s.y
}
