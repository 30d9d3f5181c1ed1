package frame

import (
	"casement/api"
	"casement/flows"
)

// piece of a page, ahead of the page's own numbers: what a part has where it lies, told in the numbers of its flow.
type piece struct {
	*part
	measure
	in     room
	rect   api.Rect // the border box
	text   string
	kids   []*piece
	strand bool // its kids are told from its inner box on; else in the same numbers as itself
	open   bool // its top is not known yet
	waits  bool // it is but a place so far
	base   size // where the last line of a strand's flow has its base
}

// pieceIn a room: a strand that has yet to be filled.
func (p *part) pieceIn(in room) *piece {
	return &piece{part: p, measure: p.measure(in), in: in, strand: true}
}

// place for a part that is laid when all else is.
func (p *part) place(x, y int) *piece {
	return &piece{part: p, rect: api.Rect{X: x, Y: y}, waits: true}
}

// own: a part laid as a box of its own.
func (p *part) own(in room) *piece {
	c := p.pieceIn(in)
	wide := c.across.want
	if !wide.told {
		wide.n = p.reaches().fit(in.wide.n - c.about().across())
	}
	c.fill(c.across.bounded(wide.n), c.down.held())
	return c
}

// fill a strand, so wide and high within (not told: as high as what lies in it).
func (c *piece) fill(wide int, high size) {
	got := c.part.lay(shape{wide: wide, high: high, in: c.in})
	c.rect.W = wide + c.edges.across()
	c.rect.H = got.high + c.edges.down()
	c.kids = got.kids
	c.base = got.base
}

// outer: how wide and high a piece is with its margins.
func (c *piece) outer() (wide, high int) {
	return c.rect.W + c.margin.across(), c.rect.H + c.margin.down()
}

// put a piece where it begins with its margins.
func (c *piece) put(x, y int) {
	c.rect.X, c.rect.Y = x+c.margin.left, y+c.margin.top
}

// shape that a strand is laid as.
type shape struct {
	wide int  // within
	high size // within
	in   room
	free bool // its bounds say nothing of its height
}

// inner: the room for what lies in it.
func (s shape) inner() room { return room{told(s.wide), s.high} }

// content of a strand, told from its inner box on.
type content struct {
	kids []*piece
	high int
	base size
}

// lay a part as a strand.
func (p *part) lay(s shape) *content {
	if c := p.laid[s]; c != nil {
		return c
	}
	c := p.content(s)
	switch {
	case s.high.told:
		c.high = s.high.n
	case !s.free:
		c.high = p.measure(s.in).down.bounded(c.high)
	}
	p.laid[s] = c
	return c
}

// content of a part, as high as it is by itself.
func (p *part) content(s shape) *content {
	switch p.Kind {
	case api.BFlex:
		return p.shared(s)
	case api.BGrid:
		return p.tracked(s)
	}
	f := &flow{list: flows.New(s.wide)}
	kids := lane{f, 0, s.inner()}.all(p.within)
	return &content{kids, max(f.at(), f.list.Clear(true, true)), f.base}
}
