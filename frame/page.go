package frame

import (
	"casement/api"
	"casement/flows"
)

// page on which boxes are laid.
type page struct {
	wide, high int
	waiting    []waiting
	moves      []move
}

// waiting: a part that is laid when all else is, its frame, and where it would stand.
type waiting struct {
	*part
	frame *Frame
	x, y  int
}

// move of a frame and all that lies in it.
type move struct {
	frame *Frame
	x, y  int
}

// lay the root's box, then what waits, and move what is to be moved.
func (p *page) lay(root *part) *Frame {
	l := lane{&flow{list: flows.New(p.wide)}, 0, room{told(p.wide), told(p.high)}}
	var c *piece
	if root.Kind == api.BLines {
		c = l.lines(root)
	} else {
		c = l.block(root)
	}
	f := frameOf(c)
	p.settle(f, c, 0, 0)
	// What lies in what waits is found when that is laid, and stands behind.
	for n := 0; n < len(p.waiting); n++ {
		p.layLate(p.waiting[n])
	}
	for _, m := range p.moves {
		m.frame.each(func(f *Frame) {
			f.Rect.X += m.x
			f.Rect.Y += m.y
		})
	}
	return f
}

// frameOf a piece, which has no place yet.
func frameOf(c *piece) *Frame {
	return &Frame{Kind: c.Kind, Node: c.Node, Style: c.Style, Text: c.text}
}

// settle a piece and all that lies in it: the numbers of its flow begin at x, y of the page.
func (p *page) settle(f *Frame, c *piece, x, y int) {
	f.Rect = api.Rect{X: x + c.rect.X, Y: y + c.rect.Y, W: c.rect.W, H: c.rect.H}
	if c.first == nil {
		c.first = f
	}
	p.relate(f, c)
	if c.strand {
		x, y = f.Rect.X+c.edges.left, f.Rect.Y+c.edges.top
	}
	for _, kid := range c.kids {
		k := frameOf(kid)
		f.Kids = append(f.Kids, k)
		if kid.waits {
			p.waiting = append(p.waiting, waiting{kid.part, k, x + kid.rect.X, y + kid.rect.Y})
		} else {
			p.settle(k, kid, x, y)
		}
	}
}

// relate: what is relative is moved when all is laid.
func (p *page) relate(f *Frame, c *piece) {
	if c.isText() || !c.says(api.PPosition, "relative") {
		return
	}
	x := c.shift(api.PLeft, api.PRight, c.in.wide)
	y := c.shift(api.PTop, api.PBottom, c.in.high)
	p.moves = append(p.moves, move{f, x, y})
}

// shift from where a part lies, by what it tells of one side or of the other.
func (p *part) shift(from, to int, of size) int {
	if n := lengthOf(p.Style.V[from], of); n.told {
		return n.n
	}
	return -lengthOf(p.Style.V[to], of).n
}

// layLate: a part that waited.
func (p *page) layLate(w waiting) {
	box := p.containing(w.part)
	c := w.pieceIn(room{told(box.W), told(box.H)})
	x, wide := w.solveAcross(c, box)
	y, high := w.solveDown(c, box, wide)
	c.fill(wide, told(high))
	c.rect.X, c.rect.Y = x, y
	p.settle(w.frame, c, 0, 0)
}

// containing box of a part that waited.
func (p *page) containing(q *part) api.Rect {
	if !q.says(api.PPosition, "fixed") {
		for o := q.around; o != nil; o = o.around {
			if o.first != nil && !o.says(api.PPosition, "static") {
				return o.padded()
			}
		}
	}
	return api.Rect{W: p.wide, H: p.high}
}

// padded: a part's border box less borders.
func (p *part) padded() api.Rect {
	r, b := p.first.Rect, p.sides(api.PBorderTop, size{})
	return api.Rect{X: r.X + b.left, Y: r.Y + b.top, W: r.W - b.across(), H: r.H - b.down()}
}

// solveAcross: where a part begins, and how wide it is within.
func (w waiting) solveAcross(c *piece, box api.Rect) (x, wide int) {
	f := w.fixed(c.across, api.PLeft, api.PRight, c.in.wide)
	f.Left, f.Right, f.AutoLeft, f.AutoRight = c.margin.left, c.margin.right, w.auto(api.PMarginLeft), w.auto(api.PMarginRight)
	f.Around, f.At = c.edges.across(), w.x-box.X
	f.Fit = w.reaches().fit(box.W - f.From - f.To - c.about().across())
	from, margin, wide, _ := f.Solve()
	return box.X + from + margin, wide
}

// solveDown: the same from above, of a part that is so wide.
func (w waiting) solveDown(c *piece, box api.Rect, wide int) (y, high int) {
	f := w.fixed(c.down, api.PTop, api.PBottom, c.in.high)
	f.Left, f.Right, f.AutoLeft, f.AutoRight = c.margin.top, c.margin.bottom, w.auto(api.PMarginTop), w.auto(api.PMarginBottom)
	f.Around, f.At = c.edges.down(), w.y-box.Y
	f.Fit = w.part.lay(shape{wide: wide, in: c.in, free: true}).high
	from, margin, high, _ := f.Solve()
	return box.Y + from + margin, high
}

// fixed: what a part tells of its ends and its size in one direction.
func (p *part) fixed(s span, from, to int, of size) flows.Fixed {
	start, end := lengthOf(p.Style.V[from], of), lengthOf(p.Style.V[to], of)
	return flows.Fixed{
		Room: of.n, From: start.n, To: end.n, AutoFrom: !start.told, AutoTo: !end.told,
		Inner: s.want.n, AutoInner: !s.want.told, Min: s.least.n, Max: s.most.orBelow0(),
	}
}
