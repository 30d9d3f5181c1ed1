package frame

import (
	"strconv"
	"strings"

	"casement/api"
	"casement/flex"
	"casement/grid"
	"casement/lengths"
)

// table of a part whose items stand in tracks.
type table struct {
	cols, rows []grid.Track // that are told
	items      []*part
	cells      []grid.Item // of the items
	wide, high int         // how many columns and rows there are
}

// tableOf a part, which is worked out once.
func (p *part) tableOf() *table {
	if p.table != nil {
		return p.table
	}
	t := &table{cols: p.tracks(api.PCols), rows: p.tracks(api.PRows), items: p.items()}
	var l []grid.Item
	for _, q := range t.items {
		l = append(l, grid.Item{Col: q.whole(api.PColFrom), ColSpan: q.whole(api.PColSpan), Row: q.whole(api.PRowFrom), RowSpan: q.whole(api.PRowSpan)})
	}
	t.cells, t.wide, t.high = grid.Place(l, max(len(t.cols), 1))
	p.table = t
	return t
}

// tracks that a property tells.
func (p *part) tracks(at int) []grid.Track {
	var l []grid.Track
	if v := p.Style.V[at]; v.Kind == api.VTracks {
		for _, word := range strings.Fields(v.Text) {
			l = append(l, trackOf(word))
		}
	}
	return l
}

// trackOf a word: a letter with a number behind it, or auto.
func trackOf(word string) grid.Track {
	n, err := strconv.Atoi(word[1:])
	if err != nil {
		return grid.Track{}
	}
	return grid.Track{Kind: 1 + strings.IndexByte("lpf", word[0]), N: n}
}

// columns in a room, with gaps between, where items are as wide as a function says.
func (t *table) columns(room, gap int, wide func(*part) int) band {
	var needs []grid.Need
	for n, c := range t.cells {
		needs = append(needs, grid.Need{From: c.Col, Span: c.ColSpan, Size: wide(t.items[n])})
	}
	return bandOf(grid.Tracks(t.cols, needs, room, gap), gap, t.wide)
}

// band of tracks with gaps between.
type band struct {
	sizes []int
	gap   int
}

// bandOf so many tracks at least: of those far out no need counts, but items may stand there.
func bandOf(sizes []int, gap, count int) band {
	for len(sizes) < count {
		sizes = append(sizes, 0)
	}
	return band{sizes, gap}
}

// area of some tracks from a track on (from 1 on): where it begins, and how far it reaches.
func (b band) area(from, span int) (at, size int) {
	return b.sum(from-1) + b.gap*(from-1), b.sum(from-1+span) - b.sum(from-1) + lengths.Gaps(span, b.gap)
}

// sum of the first tracks, without gaps.
func (b band) sum(count int) int {
	sum := 0
	for _, n := range b.sizes[:count] {
		sum += n
	}
	return sum
}

// all of it.
func (b band) all() int {
	return b.sum(len(b.sizes)) + lengths.Gaps(len(b.sizes), b.gap)
}

// tracked: the content of a part whose items stand in tracks.
func (p *part) tracked(s shape) *content {
	t, g := p.tableOf(), p.gaps(s.in)
	cols := t.columns(s.wide, g.across, func(q *part) int { return q.reachAbout().most })
	var items []*piece
	var needs []grid.Need
	for n, c := range t.cells {
		x, wide := cols.area(c.Col, c.ColSpan)
		i := t.items[n].pieceIn(room{told(wide), s.high})
		i.fill(i.acrossArea(), i.down.held())
		i.put(x, 0)
		items = append(items, i)
		_, high := i.outer()
		needs = append(needs, grid.Need{From: c.Row, Span: c.RowSpan, Size: high})
	}
	rows := bandOf(grid.Tracks(t.rows, needs, s.high.orBelow0(), g.down), g.down, t.high)
	for n, c := range t.cells {
		items[n].standIn(rows.area(c.Row, c.RowSpan))
	}
	return &content{kids: p.inOrder(items), high: rows.all()}
}

// acrossArea: how wide an item is within its area.
func (c *piece) acrossArea() int {
	if wide := c.across.held(); wide.told {
		return wide.n
	}
	return c.across.bounded(c.in.wide.n - c.about().across())
}

// standIn an area that begins at y and is so high.
func (c *piece) standIn(y, room int) {
	if c.stretches() {
		c.stretchTo(c.acrossArea(), room)
	}
	_, high := c.outer()
	c.rect.Y = y + flex.Stand(high, room, c.how()) + c.margin.top
}
