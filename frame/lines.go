package frame

import (
	"casement/api"
	"casement/flows"
	"casement/ink"
	"casement/lines"
)

// lines of a part that has such alone.
func (l lane) lines(p *part) *piece {
	c := &piece{part: p, in: l.in}
	p.eachAside(func(q *part) { c.kids = append(c.kids, l.aside(q)) })
	var atoms []*piece
	s := p.script(l.in, func(q *part) lines.Item {
		a := q.own(l.in)
		atoms = append(atoms, a)
		return a.item()
	})
	// Of what is too much for lines there are none.
	list, _ := lines.Lay(l.para(p), s.items)
	c.rect = api.Rect{X: l.x, Y: l.at(), W: l.in.wide.n}
	if len(list) == 0 {
		return c
	}
	l.setDown()
	for _, line := range list {
		t := setting{script: s, atoms: &atoms, in: l.in, x: l.x, y: l.y, base: l.y + line.Base}
		for _, f := range line.Frags {
			t.set(f)
		}
		c.kids = append(c.kids, t.kids...)
		l.base, c.rect.H = told(t.base), line.Y+line.H
	}
	l.y += c.rect.H
	return c
}

// para: how a part's lines are laid.
func (l lane) para(p *part) lines.Para {
	para := lines.Para{
		Width: l.in.wide.n, Indent: lengthOf(p.Style.V[api.PIndent], size{}).n,
		Align: p.pick(api.PAlign, "left", "right", "center", "justify"),
		Size:  p.fontSize(), High: p.lineHeight(),
	}
	for _, f := range l.list.All() {
		para.Holes = append(para.Holes, l.hole(f))
	}
	return para
}

// hole that a float makes.
func (l lane) hole(f flows.Float) lines.Hole {
	top := f.Rect.Y - l.at()
	h := lines.Hole{Top: top, Bottom: top + f.Rect.H}
	if f.Right {
		h.Right = max(l.end()-f.Rect.X, 0)
	} else {
		h.Left = max(f.Rect.X+f.Rect.W-l.x, 0)
	}
	return h
}

// item that an atom is in a line: it stands on the base of its last line, if that is to be seen.
func (c *piece) item() lines.Item {
	wide, high := c.outer()
	it := lines.Item{W: wide, H: high, Base: high}
	if c.base.told && c.says(api.POverflow, "visible") {
		it.Base = c.margin.top + c.edges.top + c.base.n
	}
	return it
}

// setting of a line.
type setting struct {
	*script
	atoms *[]*piece // that have not been set yet
	in    room
	x, y  int // where the paragraph begins
	base  int
	kids  []*piece
	open  []*piece // parts of the line, each in the one ahead, of which it has something here
}

// set what stands next in the line.
func (t *setting) set(f lines.Frag) {
	p, it := t.parts[f.Item], t.items[f.Item]
	f.X, f.Y = f.X+t.x, f.Y+t.y
	t.enter(p.inlines(), f.X)
	switch it.Kind {
	case api.IOpen:
		c := t.open[len(t.open)-1]
		c.rect.X += c.margin.left
	case api.IRun:
		t.add(&piece{part: p, in: t.in, text: f.Text, rect: api.Rect{X: f.X, Y: f.Y, W: f.W, H: f.H}})
	case api.IAtom:
		c := (*t.atoms)[0]
		*t.atoms = (*t.atoms)[1:]
		c.put(f.X, f.Y)
		t.add(c)
	}
	for _, c := range t.open {
		c.rect.W = f.X + f.W - c.rect.X
	}
	if it.Kind == api.IClose {
		c := t.open[len(t.open)-1]
		c.rect.W -= c.margin.right
	}
}

// add a piece to the innermost one that is open.
func (t *setting) add(c *piece) {
	kids := &t.kids
	if n := len(t.open); n > 0 {
		kids = &t.open[n-1].kids
	}
	*kids = append(*kids, c)
}

// enter the parts in which something stands at x: those that it is not in are left, those that are new begin there.
func (t *setting) enter(list []*part, x int) {
	n := 0
	for n < len(list) && n < len(t.open) && t.open[n].part == list[n] {
		n++
	}
	t.open = t.open[:n]
	for _, p := range list[n:] {
		c := &piece{part: p, measure: p.measure(t.in), in: t.in}
		ascent := ink.Ascent(p.fontSize())
		c.rect = api.Rect{X: x, Y: t.base - ascent - p.rises() - c.edges.top, H: ascent + ink.Descent(p.fontSize()) + c.edges.down()}
		t.add(c)
		t.open = append(t.open, c)
	}
}
