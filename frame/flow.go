package frame

import (
	"casement/api"
	"casement/flows"
)

// flow of blocks, one below the other.
type flow struct {
	list   *flows.Floats
	y      int // where what was set down last ends
	margin flows.Margin
	open   []*piece // whose tops are where the next thing is set down, each in the one ahead
	base   size     // where the last line has its base
}

// at: where the next thing is set down.
func (f *flow) at() int { return f.y + f.margin.Size() }

// setDown what is laid next: whatever is open begins there.
func (f *flow) setDown() {
	f.y = f.at()
	f.margin = flows.Margin{}
	for _, c := range f.open {
		c.rect.Y, c.open = f.y, false
	}
	f.open = nil
}

// cleared: where the floats end that a part clears; not told: there are none.
func (f *flow) cleared(p *part) size {
	left := p.says(api.PClear, "left") || p.says(api.PClear, "both")
	right := p.says(api.PClear, "right") || p.says(api.PClear, "both")
	for _, o := range f.list.All() {
		if o.Right && right || !o.Right && left {
			return told(f.list.Clear(left, right))
		}
	}
	return size{}
}

// lane: a room of a flow, from x on.
type lane struct {
	*flow
	x  int
	in room
}

// end of the room.
func (l lane) end() int { return l.x + l.in.wide.n }

// all parts of a list, one behind the other.
func (l lane) all(list []*part) []*piece {
	var kids []*piece
	for _, p := range list {
		switch {
		case p.isAside():
			kids = append(kids, l.aside(p))
		case p.Kind == api.BLines:
			kids = append(kids, l.lines(p))
		case !p.isText():
			kids = append(kids, l.block(p))
		}
	}
	return kids
}

// aside: a part that lies beside the others.
func (l lane) aside(p *part) *piece {
	if p.waits() {
		return p.place(l.x, l.at())
	}
	c := p.own(l.in)
	from := l.at()
	if end := l.cleared(p); end.told {
		from = max(from, end.n)
	}
	wide, high := c.outer()
	c.put(l.list.In(l.x, l.end()).Add(p.says(api.PFloat, "right"), wide, high, from))
	return c
}

// block that is not aside.
func (l lane) block(p *part) *piece {
	c := &piece{part: p, measure: p.measure(l.in), in: l.in, strand: p.isStrand()}
	left, wide := p.solve(c.measure, l.in)
	c.rect.X, c.rect.W = l.x+left, wide+c.edges.across()
	l.margin = l.margin.Join(flows.Of(c.margin.top))
	if end := l.cleared(p); end.told && end.n > l.at() {
		l.y, l.margin = end.n, flows.Margin{}
	}
	if c.strand {
		l.strand(c, left, wide)
	} else {
		l.through(c, wide)
	}
	l.margin = l.margin.Join(flows.Of(c.margin.bottom))
	return c
}

// strand: a block that has room beside the floats, or lies below them.
func (l lane) strand(c *piece, left, wide int) {
	l.setDown()
	edge, y := l.list.In(l.x, l.end()).Drop(left+c.rect.W+c.margin.right, l.y)
	l.y = y
	c.rect.X += edge - l.x
	c.rect.Y = l.y
	c.fill(wide, c.down.held())
	l.y += c.rect.H
}

// through: a block whose kids lie in this flow.
func (l lane) through(c *piece, wide int) {
	if c.edges.top != 0 {
		l.setDown()
		c.rect.Y = l.y
		l.y += c.edges.top
	} else {
		c.open = true
		l.open = append(l.open, c)
	}
	high := c.down.held()
	c.kids = lane{l.flow, c.rect.X + c.edges.left, room{told(wide), high}}.all(c.within)
	if c.open && (high.n != 0 || c.down.least.n != 0 || c.edges.bottom != 0) {
		l.setDown()
	}
	if c.open {
		// Nothing that is open lies in it any more: it is the last one.
		l.open = l.open[:len(l.open)-1]
		c.rect.Y = l.at()
		return
	}
	c.rect.H = l.height(c, high) + c.edges.down()
	l.y = c.rect.Y + c.rect.H
}

// height of a block within, at whose end the flow is.
func (l lane) height(c *piece, high size) int {
	if high.told {
		l.margin = flows.Margin{}
		return high.n
	}
	end := l.y
	if c.edges.bottom != 0 {
		end = l.at()
	}
	own := end - c.rect.Y - c.edges.top
	held := c.down.bounded(own)
	if c.edges.bottom != 0 || held != own {
		l.margin = flows.Margin{}
	}
	return held
}
