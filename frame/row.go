package frame

import (
	"strings"

	"casement/api"
	"casement/flex"
)

// isColumn: items lie one below the other.
func (p *part) isColumn() bool {
	return strings.HasPrefix(p.Style.V[api.PDirection].Text, "column")
}

// isReversed: items begin at the other end.
func (p *part) isReversed() bool {
	return strings.HasSuffix(p.Style.V[api.PDirection].Text, "-reverse")
}

// shared: the content of a part whose items share a row, rows or a column.
func (p *part) shared(s shape) *content {
	b := &bench{part: p, shape: s, gaps: p.gaps(s.in)}
	for _, q := range p.items() {
		b.items = append(b.items, q.pieceIn(s.inner()))
	}
	high := 0
	if p.isColumn() {
		high = b.column()
	} else {
		high = b.rows()
	}
	return &content{kids: p.inOrder(b.items), high: high}
}

// bench: what items share.
type bench struct {
	*part
	shape
	gaps  gaps
	items []*piece
}

// turned: where a thing begins in a room, if it begins as far from the other end, where that is asked for.
func (b *bench) turned(from, wide, room int) int {
	if b.isReversed() {
		return room - from - wide
	}
	return from
}

// rows of items; how high they are together.
func (b *bench) rows() int {
	var wants []flex.Item
	for _, c := range b.items {
		wants = append(wants, c.wantAcross(b.inner()))
	}
	counts := flex.Rows(wants, b.wide, b.gaps.across, b.says(api.PWrap, "wrap"))
	y, at := 0, 0
	for n, count := range counts {
		if n > 0 {
			y += b.gaps.down
		}
		r := row{bench: b, items: b.items[at : at+count], alone: len(counts) == 1}
		r.widths = flex.Share(wants[at:at+count], b.wide, b.gaps.across)
		y += r.lay(y)
		at += count
	}
	return y
}

// wantAcross: how an item takes part in a row.
func (c *piece) wantAcross(in room) flex.Item {
	base := lengthOf(c.Style.V[api.PBasis], in.wide)
	if !base.told {
		base = c.across.want
	}
	if !base.told {
		base.n = c.reaches().most
	}
	return c.want(base.n, c.across, c.about().across())
}

// want: an item with a Base, bounds and what stands around it.
func (c *piece) want(base int, s span, around int) flex.Item {
	return flex.Item{
		Base: base, Min: s.least.n, Max: s.most.orBelow0(), Around: around,
		Grow: c.Style.V[api.PGrow].N, Shrink: c.Style.V[api.PShrink].N,
	}
}

// row of items.
type row struct {
	*bench
	items  []*piece
	widths []int
	alone  bool
}

// lay a row from y on; how high it is.
func (r *row) lay(y int) int {
	tall := 0
	var wides []int
	for n, c := range r.items {
		c.fill(r.widths[n], c.down.held())
		wide, high := c.outer()
		wides = append(wides, wide)
		tall = max(tall, high)
	}
	if r.alone && r.high.told {
		tall = r.high.n
	}
	for n, x := range flex.Spread(wides, r.wide, r.gaps.across, r.justify()) {
		c := r.items[n]
		if c.stretches() {
			c.stretchTo(r.widths[n], tall)
		}
		_, high := c.outer()
		c.put(r.turned(x, wides[n], r.wide), y+flex.Stand(high, tall, c.how()))
	}
	return tall
}

// column of items; how high all of it is.
func (b *bench) column() int {
	var wants []flex.Item
	var wides []int
	for _, c := range b.items {
		wide := c.acrossColumn(b.wide)
		wides = append(wides, wide)
		wants = append(wants, c.wantDown(wide, b.high))
	}
	b.fillColumn(wants, wides)
	var highs []int
	need := 0
	for n, c := range b.items {
		if n > 0 {
			need += b.gaps.down
		}
		_, high := c.outer()
		highs = append(highs, high)
		need += high
	}
	b.standColumn(highs, need)
	return need
}

// acrossColumn: how wide an item of a column is within.
func (c *piece) acrossColumn(room int) int {
	n, free := c.across.want.n, room-c.about().across()
	switch {
	case c.across.want.told:
	case c.how() == stretch:
		n = free
	default:
		n = c.reaches().fit(free)
	}
	return c.across.bounded(n)
}

// wantDown: how an item that is so wide takes part in a column.
func (c *piece) wantDown(wide int, high size) flex.Item {
	base := lengthOf(c.Style.V[api.PBasis], high)
	if !base.told {
		base = c.down.want
	}
	if !base.told {
		base.n = c.part.lay(shape{wide: wide, in: c.in}).high
	}
	return c.want(base.n, c.down, c.about().down())
}

// fillColumn: each item is as high as its share of a height that is told, or as it wants to be.
func (b *bench) fillColumn(wants []flex.Item, wides []int) {
	var highs []int
	if b.high.told {
		highs = flex.Share(wants, b.high.n, b.gaps.down)
	} else {
		for n, c := range b.items {
			highs = append(highs, c.down.bounded(wants[n].Base))
		}
	}
	for n, c := range b.items {
		c.fill(wides[n], told(highs[n]))
	}
}

// standColumn: the items stand in the height, or in what they need.
func (b *bench) standColumn(highs []int, need int) {
	room := need
	if b.high.told {
		room = b.high.n
	}
	for n, y := range flex.Spread(highs, room, b.gaps.down, b.justify()) {
		c := b.items[n]
		wide, _ := c.outer()
		c.put(flex.Stand(wide, b.wide, c.how()), b.turned(y, highs[n], room))
	}
}
