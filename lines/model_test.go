package lines

import (
	"fmt"
	"math"
	"math/rand"
	"slices"
	"testing"

	"casement/api"
	"casement/ink"
)

// A second telling of lines: what goes is asked of each mark by what stands around it in the items as they are; each line looks at every place anew, and adds up what it would have in it. (What Width, Ascent and Breaks say is taken from them.)

// mark: a letter as it stands in an item, or an item itself.
type mark struct {
	sort byte // l: a letter, /: a forced end, <, >: an edge, #: an atom
	item int
	r    rune
	it   Item
}

func (m mark) edge() bool { return m.sort == '<' || m.sort == '>' }

func (m mark) in(modes ...int) bool { return slices.Contains(modes, m.it.Mode) }

func (m mark) wide() int {
	switch m.sort {
	case 'l':
		return ink.Width(m.it.Size, string(m.r))
	case '/':
		return 0
	}
	return m.it.W
}

// marks of items, with nothing gone as yet.
func marks(l []Item) []mark {
	var list []mark
	for n, it := range l {
		if it.Mode < 0 || it.Mode > 4 {
			it.Mode = 0
		}
		switch it.Kind {
		case api.IOpen:
			list = append(list, mark{'<', n, 0, it})
		case api.IClose:
			list = append(list, mark{'>', n, 0, it})
		case api.IAtom:
			list = append(list, mark{'#', n, 0, it})
		case api.IBreak:
			list = append(list, mark{'/', n, 0, it})
		case api.IRun:
			for _, r := range []rune(it.Text) {
				switch {
				case r == 10 && it.Mode >= 2:
					list = append(list, mark{'/', n, 0, it})
				case r == 9, r == 10, r == 12, r == 13:
					list = append(list, mark{'l', n, 32, it})
				default:
					list = append(list, mark{'l', n, r, it})
				}
			}
		}
	}
	return list
}

// besideEnd: whether blanks alone stand between a mark and a forced end of its own item.
func besideEnd(list []mark, at int) bool {
	for _, step := range []int{-1, 1} {
		for n := at; n >= 0 && n < len(list) && list[n].item == list[at].item; n += step {
			if list[n].sort == '/' {
				return true
			}
			if list[n].r != 32 {
				break
			}
		}
	}
	return false
}

// gone: whether a mark does not become a unit.
func gone(list []mark, at int) bool {
	m := list[at]
	if m.sort != 'l' || m.r != 32 || m.in(2, 3) {
		return false
	}
	if m.in(4) && besideEnd(list, at) {
		return true
	}
	ahead := slices.DeleteFunc(slices.Clone(list[:at]), mark.edge)
	if len(ahead) == 0 {
		return true
	}
	last := ahead[len(ahead)-1]
	return last.sort == '/' || last.sort == 'l' && last.r == 32 && last.in(0, 1, 4)
}

// told: the places in units at which lines may end by P81: the unit ahead of which the next line begins.
func told(units []mark) []int {
	var places []int
	text, solid := "", []int{}
	finish := func() {
		places = append(places, placesOf(units, text, solid)...)
		text, solid = "", nil
	}
	for n, m := range units {
		switch m.sort {
		case '/':
			finish()
		case '#':
			text, solid = text+"\ufffc", append(solid, n)
		case 'l':
			text, solid = text+string(m.r), append(solid, n)
		}
	}
	finish()
	return places
}

func placesOf(units []mark, text string, solid []int) []int {
	var places []int
	breaks := ink.Breaks(text)
	size := 0
	for k := 1; k < len(solid); k++ {
		a, b := units[solid[k-1]], units[solid[k]]
		size += len(string([]rune(text)[k-1]))
		may := slices.Contains(breaks, size)
		glued := func(m mark) bool { return m.sort == 'l' && (m.r == 0xA0 || m.r == 0x2060) }
		if a.sort == '#' && !glued(b) || b.sort == '#' && !glued(a) {
			may = true
		}
		if a.sort == 'l' && a.in(1, 2) {
			may = false
		}
		if a.sort == '#' && b.sort == 'l' && b.in(1, 2) {
			may = false
		}
		if !may {
			continue
		}
		next := solid[k]
		for e := solid[k] - 1; e > solid[k-1]; e-- {
			if units[e].sort == '<' {
				next = e
			}
		}
		places = append(places, next)
	}
	return places
}

// trimmed: units of a line without its forced end, and without blanks at its end.
func trimmed(units []mark) []mark {
	var out []mark
	ended := true
	for n := len(units) - 1; n >= 0; n-- {
		m := units[n]
		switch {
		case m.sort == '/', ended && m.sort == 'l' && m.r == 32 && !m.in(2):
			continue
		case m.sort == 'l', m.sort == '#':
			ended = false
		}
		out = append([]mark{m}, out...)
	}
	return out
}

func wideOf(units []mark) int {
	sum := 0
	for _, m := range trimmed(units) {
		sum += m.wide()
	}
	return sum
}

func half(n int) int { return int(math.Floor(float64(n) / 2)) }

func highOf(size, high int) int {
	if high < 0 {
		return int(math.Floor(float64(size) * 5 / 4))
	}
	return high
}

// aboveBelow the base, of letters.
func aboveBelow(size, high, rise int) (int, int) {
	both := ink.Ascent(size) + ink.Descent(size)
	l := highOf(size, high)
	above := ink.Ascent(size) + half(l-both)
	return above + rise, l - above - rise
}

// beside: what holes leave of a paragraph at a height.
func beside(p Para, y int, first bool) (left, room int, bottoms []int) {
	high := highOf(p.Size, p.High)
	if high <= 0 {
		high = 1
	}
	var lefts, rights []int
	for _, h := range p.Holes {
		if h.Top < y+high && h.Bottom > y {
			lefts, rights, bottoms = append(lefts, h.Left), append(rights, h.Right), append(bottoms, h.Bottom)
		}
	}
	room = p.Width
	if first {
		left, room = p.Indent, room-p.Indent
	}
	if len(lefts) > 0 {
		left += slices.Max(lefts)
		room -= slices.Max(lefts) + slices.Max(rights)
	}
	return left, room, bottoms
}

// stopsFrom: where a line that begins with that unit may stop; last, at a forced end or behind the last unit.
func stopsFrom(units []mark, places []int, from int) []int {
	end := len(units)
	for n := len(units) - 1; n >= from; n-- {
		if units[n].sort == '/' {
			end = n + 1
		}
	}
	first := from
	for first < end && (units[first].edge() || units[first].sort == '/') {
		first++
	}
	var stops []int
	for _, n := range places {
		if n > first && n < end {
			stops = append(stops, n)
		}
	}
	return append(stops, end)
}

// model of Lay, of what is within the bounds.
func model(p Para, l []Item) []Line {
	all := marks(l)
	var units []mark
	for n, m := range all {
		if !gone(all, n) {
			units = append(units, m)
		}
	}
	places := told(units)
	var out []Line
	y, from := 0, 0
	for {
		rest := units[from:]
		if !slices.ContainsFunc(rest, func(m mark) bool { return !m.edge() || m.it.W != 0 }) {
			return out
		}
		stops := stopsFrom(units, places, from)
		left, room, bottoms := beside(p, y, len(out) == 0)
		to := -1
		for _, n := range stops {
			if wideOf(units[from:n]) <= room {
				to = n
			}
		}
		if to < 0 && len(bottoms) > 0 {
			y = slices.Min(bottoms)
			continue
		}
		if to < 0 {
			to = stops[0]
		}
		line := place(p, units[from:to], y, left, room, to == stops[len(stops)-1])
		out = append(out, line)
		y, from = y+line.H, to
	}
}

// place: a line of these units.
func place(p Para, units []mark, y, left, room int, last bool) Line {
	shown := trimmed(units)
	line := Line{Y: y, X: left, W: wideOf(units)}
	free := 0
	if room > line.W {
		free = room - line.W
	}
	blanks := 0
	for _, m := range shown {
		if m.sort == 'l' && m.r == 32 {
			blanks++
		}
	}
	switch {
	case p.Align == 1:
		line.X += free
	case p.Align == 2:
		line.X += half(free)
	case p.Align == 3 && !last && blanks > 0:
		line.W += free
	}
	if p.Align != 3 || last {
		blanks = 0
	}
	above, below := aboveBelow(p.Size, p.High, 0)
	for _, m := range shown {
		a, b := above, below
		switch m.sort {
		case 'l':
			a, b = aboveBelow(m.it.Size, m.it.High, m.it.Rise)
		case '#':
			a, b = m.it.Base+m.it.Rise, m.it.H-m.it.Base-m.it.Rise
		}
		above, below = max(above, a), max(below, b)
	}
	line.Base = y + above
	if above+below > 0 {
		line.H = above + below
	}
	line.Frags = fragsOf(shown, line.X, line.Base, free, blanks)
	return line
}

func fragsOf(shown []mark, x, base, free, blanks int) []Frag {
	var out []Frag
	k := 0
	for n, m := range shown {
		f := Frag{Item: m.item, X: x, Y: base, W: m.wide()}
		switch m.sort {
		case 'l':
			f.Text = string(m.r)
			f.Y, f.H = base-ink.Ascent(m.it.Size)-m.it.Rise, ink.Ascent(m.it.Size)+ink.Descent(m.it.Size)
			if m.r == 32 && blanks > 0 {
				k++
				f.W += free*k/blanks - free*(k-1)/blanks
			}
		case '#':
			f.Y, f.H = base-m.it.Base-m.it.Rise, m.it.H
		}
		x += f.W
		if n > 0 && m.sort == 'l' && shown[n-1].item == m.item {
			out[len(out)-1].Text += f.Text
			out[len(out)-1].W += f.W
			continue
		}
		out = append(out, f)
	}
	return out
}

// chance makes paragraphs.
type chance struct{ *rand.Rand }

// near 0, or not: a length.
func (c chance) length(most int) int {
	switch c.Intn(6) {
	case 0:
		return 0
	case 1:
		return -c.Intn(most)
	}
	return c.Intn(most)
}

func (c chance) text() string {
	pieces := []string{"a", "i", "mm", "b", " ", " ", " ", "  ", "\n", "\n", " \n ", "\t", "\r", "\f", "-", "1", "\u2010", "\u200b", "\u00ad", "\u00a0", "\u2060", "\u4e2d", "\u6587", "\u300c", "\u3002", "\xff", "\xe4\xb8", "\ufffc", "\u0301", "W"}
	s := ""
	for range c.Intn(9) {
		s += pieces[c.Intn(len(pieces))]
	}
	return s
}

func (c chance) item() Item {
	it := Item{Kind: api.IRun, Text: c.text(), Size: 1000, High: -1, Mode: c.Intn(7) - 1}
	if c.Intn(2) == 0 {
		it.Mode = 0
	}
	if c.Intn(4) == 0 {
		it.Size, it.High, it.Rise = c.length(2000), c.length(2000), c.length(500)
	}
	switch c.Intn(9) {
	case 0, 1, 2, 3:
		return it
	case 4, 5:
		it.Kind = api.IOpen
	case 6:
		it.Kind = api.IClose
	case 7:
		it.Kind = api.IAtom
	case 8:
		it.Kind = c.Intn(9) - 1
	}
	it.W, it.H, it.Base = c.length(900), c.length(2000), c.length(2000)
	if c.Intn(3) == 0 {
		it.W = 0
	}
	return it
}

func (c chance) para() Para {
	p := Para{Width: c.length(5000), Align: c.Intn(6) - 1, Size: 1000, High: -1}
	if c.Intn(3) == 0 {
		p.Size, p.High, p.Indent = c.length(1500), c.length(1500), c.length(1500)
	}
	for range c.Intn(4) {
		top := c.length(4000)
		p.Holes = append(p.Holes, Hole{top, top + c.length(2000), c.length(1500), c.length(1500)})
	}
	return p
}

func (c chance) items() []Item {
	var l []Item
	for range c.Intn(9) {
		l = append(l, c.item())
	}
	return l
}

func compare(t *testing.T, p Para, l []Item) {
	t.Helper()
	got, err := Lay(p, l)
	if err != nil {
		t.Fatalf("%+v %+v: %v", p, l, err)
	}
	if want := fmt.Sprintf("%#v", model(p, l)); fmt.Sprintf("%#v", got) != want {
		t.Fatalf("%+v %#v:\n%#v, want\n%s", p, l, got, want)
	}
}

// P80 to P84: paragraphs made by chance are laid as the second telling says.
func TestModel(t *testing.T) {
	c := chance{rand.New(rand.NewSource(8))}
	for range 60000 {
		compare(t, c.para(), c.items())
	}
}

func FuzzLay(f *testing.F) {
	for n := range int64(20) {
		f.Add(n, "a b", 0)
	}
	f.Fuzz(func(t *testing.T, seed int64, text string, mode int) {
		c := chance{rand.New(rand.NewSource(seed))}
		l := append(c.items(), moded(mode, text[:min(len(text), 60)]))
		l = append(l, c.items()...)
		compare(t, c.para(), l)
	})
}
