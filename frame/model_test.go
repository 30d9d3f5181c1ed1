package frame

import (
	"fmt"
	"math/big"
	"slices"
	"strings"
	"testing"

	"casement/api"
	"casement/boxes"
	"casement/flex"
	"casement/flows"
	"casement/grid"
	"casement/ink"
	"casement/lines"
)

// A second telling of frames: nothing is kept, all is laid at 0, 0 as often as it is asked for, and shifted to where it stands; margins are lists, and where a block begins is looked up among the places where things were set down.

// telling of a page.
type telling struct {
	up         map[*boxes.Box]*boxes.Box
	wide, high int
}

// mark: a frame of the second telling.
type mark struct {
	box  *boxes.Box
	rect api.Rect
	text string
	kids []*mark
	cw   int
	ch   *int
	late bool // a place so far
}

func (m *mark) shift(x, y int) *mark {
	m.rect.X, m.rect.Y = m.rect.X+x, m.rect.Y+y
	for _, k := range m.kids {
		k.shift(x, y)
	}
	return m
}

// walk: all marks of a mark, in order.
func (m *mark) walk() []*mark {
	l := []*mark{m}
	for _, k := range m.kids {
		l = append(l, k.walk()...)
	}
	return l
}

const (
	above, right, below, left = 0, 1, 2, 3
)

func word(b *boxes.Box, at int) string { return b.Style.V[at].Text }

func number(b *boxes.Box, at int) int { return b.Style.V[at].N }

// modelLength of a value, of a room; nil: it has none.
func modelLength(v api.Value, of *int) *int {
	n := v.N
	switch {
	case v.Kind == api.VPart && of != nil:
		hold := func(n int64) int64 { return max(min(n, 1<<24), -(1 << 24)) }
		b := new(big.Int).Mul(big.NewInt(hold(int64(*of))), big.NewInt(int64(v.N)))
		n = int(hold(b.Div(b, big.NewInt(100000)).Int64()))
	case v.Kind != api.VLength:
		return nil
	}
	return &n
}

// or another number, if there is none.
func or(n *int, other int) int {
	if n == nil {
		return other
	}
	return *n
}

func lengthAt(b *boxes.Box, at int, of *int) int { return or(modelLength(b.Style.V[at], of), 0) }

func marginAt(b *boxes.Box, side int, cw *int) int { return lengthAt(b, api.PMarginTop+side, cw) }

func edgeAt(b *boxes.Box, side int, cw *int) int {
	return lengthAt(b, api.PBorderTop+side, cw) + lengthAt(b, api.PPaddingTop+side, cw)
}

// edgesAt: of a direction, by the property of its size.
func edgesAt(b *boxes.Box, at int, cw *int) int {
	if at < api.PHeight {
		return edgeAt(b, left, cw) + edgeAt(b, right, cw)
	}
	return edgeAt(b, above, cw) + edgeAt(b, below, cw)
}

func marginsAt(b *boxes.Box, at int, cw *int) int {
	if at < api.PHeight {
		return marginAt(b, left, cw) + marginAt(b, right, cw)
	}
	return marginAt(b, above, cw) + marginAt(b, below, cw)
}

func aboutAt(b *boxes.Box, at int, cw *int) int { return edgesAt(b, at, cw) + marginsAt(b, at, cw) }

// innerAt: width, height or a bound of them, within; nil: none.
func innerAt(b *boxes.Box, at int, of, cw *int) *int {
	n := modelLength(b.Style.V[at], of)
	if n != nil && word(b, api.PBoxSizing) == "border-box" {
		less := max(*n-edgesAt(b, at, cw), 0)
		n = &less
	}
	return n
}

// within bounds, by the property of the size.
func within(b *boxes.Box, at, n int, of, cw *int) int {
	if most := innerAt(b, at+2, of, cw); most != nil && n > *most {
		n = *most
	}
	if least := or(innerAt(b, at+1, of, cw), 0); n < least {
		n = least
	}
	return n
}

// toldHeight, bounded; nil: none.
func toldHeight(b *boxes.Box, cw int, ch *int) *int {
	n := innerAt(b, api.PHeight, ch, &cw)
	if n != nil {
		held := within(b, api.PHeight, *n, ch, &cw)
		n = &held
	}
	return n
}

func isAbsolute(b *boxes.Box) bool {
	return b.Kind != api.BRun && b.Kind != api.BBreak && slices.Contains([]string{"absolute", "fixed"}, word(b, api.PPosition))
}

func isFloat(b *boxes.Box) bool {
	return b.Kind != api.BRun && b.Kind != api.BBreak && word(b, api.PFloat) != "none"
}

// stream: a flow.
type stream struct {
	floats *flows.Floats
	y      int
	m      []int
	downs  []int // where things were set down
	base   *int
}

func (s *stream) at() int {
	return s.y + slices.Max(append(s.m, 0)) + slices.Min(append(s.m, 0))
}

func (s *stream) set() {
	s.y, s.m = s.at(), nil
	s.downs = append(s.downs, s.y)
}

// clear: where floats end that a box clears; nil: none do.
func (s *stream) clear(b *boxes.Box) *int {
	var end *int
	for _, f := range s.floats.All() {
		side := map[bool]string{false: "left", true: "right"}[f.Right]
		if e := f.Rect.Y + f.Rect.H; (word(b, api.PClear) == side || word(b, api.PClear) == "both") && (end == nil || e > *end) {
			end = &e
		}
	}
	return end
}

// between: L and R at y, in a room as it is told when it is handed over, and whether no float is there.
func (s *stream) between(low, high int) (l, r int, alone bool) {
	hold := func(n int) int { return max(min(n, 1<<24), -(1 << 24)) }
	lefts, rights := []int{hold(low)}, []int{hold(high)}
	for _, f := range s.floats.All() {
		switch {
		case f.Rect.Y > s.y || s.y >= f.Rect.Y+max(f.Rect.H, 1):
		case f.Right:
			rights = append(rights, f.Rect.X)
		default:
			lefts = append(lefts, f.Rect.X+f.Rect.W)
		}
	}
	return slices.Max(lefts), slices.Min(rights), len(lefts)+len(rights) == 2
}

// next y at which other floats are there than at y.
func (s *stream) next() int {
	var all []int
	for _, f := range s.floats.All() {
		all = append(all, f.Rect.Y, f.Rect.Y+max(f.Rect.H, 1))
	}
	return slices.Min(slices.DeleteFunc(all, func(y int) bool { return y <= s.y }))
}

// blocks: the kids of a block, in a room.
func (t *telling) blocks(s *stream, list []*boxes.Box, x, w int, ch *int) []*mark {
	var out []*mark
	for _, b := range list {
		switch {
		case isAbsolute(b) || isFloat(b):
			out = append(out, t.aside(s, b, x, w, ch))
		case b.Kind == api.BLines:
			out = append(out, t.paragraph(s, b, x, w, ch))
		default:
			out = append(out, t.block(s, b, x, w, ch))
		}
	}
	return out
}

func (t *telling) aside(s *stream, b *boxes.Box, x, w int, ch *int) *mark {
	if isAbsolute(b) {
		return &mark{box: b, rect: api.Rect{X: x, Y: s.at()}, late: true}
	}
	m, _ := t.own(b, w, ch)
	fx, fy := s.floats.In(x, x+w).Add(word(b, api.PFloat) == "right", m.rect.W+marginsAt(b, api.PWidth, &w), m.rect.H+marginsAt(b, api.PHeight, &w), max(s.at(), or(s.clear(b), s.at())))
	return m.shift(fx+marginAt(b, left, &w), fy+marginAt(b, above, &w))
}

func (t *telling) block(s *stream, b *boxes.Box, x, w int, ch *int) *mark {
	width := innerAt(b, api.PWidth, &w, &w)
	l, inner, _ := flows.Width{Room: w, Left: marginAt(b, left, &w), Inner: or(width, 0), Right: marginAt(b, right, &w), Around: edgesAt(b, api.PWidth, &w),
		Min: or(innerAt(b, api.PMinWidth, &w, &w), 0), Max: or(innerAt(b, api.PMaxWidth, &w, &w), -1),
		AutoLeft: word(b, api.PMarginLeft) == "auto", AutoInner: width == nil, AutoRight: word(b, api.PMarginRight) == "auto"}.Solve()
	s.m = append(s.m, marginAt(b, above, &w))
	if end := s.clear(b); end != nil && *end > s.at() {
		s.y, s.m = *end, nil
	}
	high := toldHeight(b, w, ch)
	var m *mark
	if t.up[b] == nil || b.Kind != api.BBlock || word(b, api.POverflow) == "hidden" {
		s.set()
		need := l + edgesAt(b, api.PWidth, &w) + inner + marginAt(b, right, &w)
		from, to, alone := s.between(x, x+w)
		for !alone && need > to-from {
			s.y = s.next()
			from, to, alone = s.between(x, x+w)
		}
		m, _ = t.strand(b, inner, high, w, ch, false)
		m.shift(from+l, s.y)
		s.y += m.rect.H
	} else {
		m = t.through(s, b, x+l, inner, w, ch, high)
	}
	s.m = append(s.m, marginAt(b, below, &w))
	return m
}

func (t *telling) through(s *stream, b *boxes.Box, x, inner, w int, ch, high *int) *mark {
	m := &mark{box: b, rect: api.Rect{X: x, W: inner + edgesAt(b, api.PWidth, &w)}, cw: w, ch: ch}
	opened := len(s.downs)
	top, bottom := edgeAt(b, above, &w), edgeAt(b, below, &w)
	if top != 0 {
		s.set()
	}
	s.y += top
	m.kids = t.blocks(s, b.Kids, x+edgeAt(b, left, &w), inner, high)
	if len(s.downs) == opened {
		if or(high, 0) == 0 && or(innerAt(b, api.PMinHeight, ch, &w), 0) == 0 && bottom == 0 {
			m.rect.Y = s.at()
			return m
		}
		s.set()
	}
	m.rect.Y = s.downs[opened]
	end := s.y
	if bottom != 0 {
		end = s.at()
	}
	own := end - m.rect.Y - top
	if high == nil {
		held := within(b, api.PHeight, own, ch, &w)
		high = &held
	} else {
		s.m = nil
	}
	if bottom != 0 || *high != own {
		s.m = nil
	}
	m.rect.H = top + *high + bottom
	s.y = m.rect.Y + m.rect.H
	return m
}

// strand at 0, 0: with its base from there on, if it has lines.
func (t *telling) strand(b *boxes.Box, inner int, high *int, cw int, ch *int, free bool) (*mark, *int) {
	m := &mark{box: b, cw: cw, ch: ch}
	own := 0
	var base *int
	switch b.Kind {
	case api.BFlex:
		m.kids, own = t.flex(b, inner, high, cw, ch)
	case api.BGrid:
		m.kids, own = t.grid(b, inner, high, cw, ch)
	default:
		s := &stream{floats: flows.New(inner)}
		m.kids = t.blocks(s, b.Kids, 0, inner, high)
		own = s.at()
		for _, f := range s.floats.All() {
			own = max(own, f.Rect.Y+f.Rect.H)
		}
		base = s.base
	}
	if high != nil {
		own = *high
	} else if !free {
		own = within(b, api.PHeight, own, ch, &cw)
	}
	for _, k := range m.kids {
		k.shift(edgeAt(b, left, &cw), edgeAt(b, above, &cw))
	}
	if base != nil {
		from := *base + edgeAt(b, above, &cw)
		base = &from
	}
	m.rect = api.Rect{W: inner + edgesAt(b, api.PWidth, &cw), H: own + edgesAt(b, api.PHeight, &cw)}
	return m, base
}

func (t *telling) own(b *boxes.Box, w int, ch *int) (*mark, *int) {
	n := or(innerAt(b, api.PWidth, &w, &w), t.fit(b, w-aboutAt(b, api.PWidth, &w)))
	return t.strand(b, within(b, api.PWidth, n, &w, &w), toldHeight(b, w, ch), w, ch, false)
}

func (t *telling) fit(b *boxes.Box, room int) int {
	if n := t.reach(b, true); n <= room {
		return n
	}
	return max(room, t.reach(b, false))
}

// reach: MOST, or LEAST.
func (t *telling) reach(b *boxes.Box, most bool) int {
	if n := innerAt(b, api.PWidth, nil, nil); n != nil {
		return *n
	}
	all := []int{0}
	kids := b.Kids
	switch {
	case b.Kind == api.BLines:
		kids = nil
		for _, k := range asides(b) {
			if isFloat(k) {
				kids = append(kids, k)
			}
		}
		items, _ := modelScript(b, nil, func(b *boxes.Box) lines.Item { return lines.Item{W: t.reachAbout(b, most)} })
		list, _ := lines.Lay(lines.Para{Width: map[bool]int{true: 1 << 24}[most], Size: number(b, api.PSize), High: highOf(b)}, items)
		for _, l := range list {
			all = append(all, l.W)
		}
	case b.Kind == api.BFlex && strings.HasPrefix(word(b, api.PDirection), "row"):
		sum := 0
		for n, k := range itemsOf(b) {
			sum += t.reachAbout(k, most) + min(n, 1)*lengthAt(b, api.PGapCol, nil)
		}
		return sum
	case b.Kind == api.BGrid:
		return together(t.columns(b, -1, lengthAt(b, api.PGapCol, nil), most), lengthAt(b, api.PGapCol, nil))
	}
	for _, k := range kids {
		if !isAbsolute(k) {
			all = append(all, t.reachAbout(k, most))
		}
	}
	return slices.Max(all)
}

func (t *telling) reachAbout(b *boxes.Box, most bool) int {
	n := t.reach(b, most)
	n = min(n, or(innerAt(b, api.PMaxWidth, nil, nil), n))
	n = max(n, or(innerAt(b, api.PMinWidth, nil, nil), n))
	return n + aboutAt(b, api.PWidth, nil)
}

func (t *telling) columns(b *boxes.Box, room, gap int, most bool) []int {
	var needs []grid.Need
	cells := cellsOf(b)
	for n, k := range itemsOf(b) {
		needs = append(needs, grid.Need{From: cells[n].Col, Span: cells[n].ColSpan, Size: t.reachAbout(k, most)})
	}
	return grid.Tracks(tracksOf(b, api.PCols), needs, room, gap)
}

// together: tracks and gaps.
func together(l []int, gap int) int {
	sum := 0
	for n, w := range l {
		sum += w + min(n, 1)*gap
	}
	return sum
}

func tracksOf(b *boxes.Box, at int) []grid.Track {
	var l []grid.Track
	for _, w := range strings.Fields(strings.TrimPrefix(word(b, at), "none")) {
		n := 0
		fmt.Sscanf(w[1:], "%d", &n)
		l = append(l, grid.Track{Kind: map[byte]int{'l': 1, 'p': 2, 'f': 3}[w[0]], N: n})
	}
	return l
}

func cellsOf(b *boxes.Box) []grid.Item {
	var l []grid.Item
	for _, k := range itemsOf(b) {
		l = append(l, grid.Item{Col: number(k, api.PColFrom) / 1000, ColSpan: number(k, api.PColSpan) / 1000, Row: number(k, api.PRowFrom) / 1000, RowSpan: number(k, api.PRowSpan) / 1000})
	}
	cells, _, _ := grid.Place(l, max(len(tracksOf(b, api.PCols)), 1))
	return cells
}

// itemsOf a row or table: by order, one order after the other.
func itemsOf(b *boxes.Box) []*boxes.Box {
	orders := map[int][]*boxes.Box{}
	var keys []int
	for _, k := range b.Kids {
		if !isAbsolute(k) {
			orders[number(k, api.POrder)] = append(orders[number(k, api.POrder)], k)
			keys = append(keys, number(k, api.POrder))
		}
	}
	slices.Sort(keys)
	var l []*boxes.Box
	for _, n := range slices.Compact(keys) {
		l = append(l, orders[n]...)
	}
	return l[:min(len(l), 200)]
}

// asides of a paragraph, in order.
func asides(b *boxes.Box) []*boxes.Box {
	var l []*boxes.Box
	for _, k := range b.Kids {
		if isAbsolute(k) || isFloat(k) {
			l = append(l, k)
		} else if k.Kind == api.BInline {
			l = append(l, asides(k)...)
		}
	}
	return l
}

func highOf(b *boxes.Box) int {
	switch v := b.Style.V[api.PLine]; v.Kind {
	case api.VLength:
		return v.N
	case api.VNumber:
		return number(b, api.PSize) * v.N / 1000
	}
	return -1
}

func riseOf(b *boxes.Box) int {
	return map[string]int{"sub": -(number(b, api.PSize) / 5), "super": number(b, api.PSize) / 3, "": number(b, api.PRise)}[word(b, api.PRise)]
}

// stretch of items that a box is in a paragraph.
type stretchOf struct {
	box      *boxes.Box
	from, to int
	rise     int
	kids     []stretchOf
}

// modelScript of a paragraph.
func modelScript(b *boxes.Box, cw *int, atom func(*boxes.Box) lines.Item) ([]lines.Item, []stretchOf) {
	var items []lines.Item
	var of func(list []*boxes.Box, rise int) []stretchOf
	of = func(list []*boxes.Box, rise int) []stretchOf {
		var out []stretchOf
		for _, k := range list {
			if isAbsolute(k) || isFloat(k) {
				continue
			}
			s := stretchOf{box: k, from: len(items), rise: rise}
			mode := slices.Index(strings.Fields("normal nowrap pre pre-wrap pre-line"), word(k, api.PSpace))
			switch k.Kind {
			case api.BRun:
				items = append(items, lines.Item{Kind: api.IRun, Text: k.Text, Size: number(k, api.PSize), High: highOf(k), Mode: mode, Rise: rise})
			case api.BBreak:
				items = append(items, lines.Item{Kind: api.IBreak})
			case api.BAtom:
				it := atom(k)
				it.Kind, it.Mode, it.Rise = api.IAtom, mode, rise+riseOf(k)
				items = append(items, it)
			case api.BInline:
				s.rise += riseOf(k)
				items = append(items, lines.Item{Kind: api.IOpen, W: marginAt(k, left, cw) + edgeAt(k, left, cw)})
				s.kids = of(k.Kids, s.rise)
				items = append(items, lines.Item{Kind: api.IClose, W: marginAt(k, right, cw) + edgeAt(k, right, cw)})
			}
			s.to = len(items)
			out = append(out, s)
		}
		return out
	}
	return items, of(b.Kids, 0)
}

func (t *telling) paragraph(s *stream, b *boxes.Box, x, w int, ch *int) *mark {
	m := &mark{box: b, cw: w, ch: ch}
	for _, k := range asides(b) {
		m.kids = append(m.kids, t.aside(s, k, x, w, ch))
	}
	p := lines.Para{Width: w, Indent: number(b, api.PIndent), Size: number(b, api.PSize), High: highOf(b)}
	p.Align = slices.Index(strings.Fields("left right center justify"), word(b, api.PAlign))
	for _, f := range s.floats.All() {
		h := lines.Hole{Top: f.Rect.Y - s.at(), Bottom: f.Rect.Y + f.Rect.H - s.at()}
		if f.Right {
			h.Right = max(0, x+w-f.Rect.X)
		} else {
			h.Left = max(0, f.Rect.X+f.Rect.W-x)
		}
		p.Holes = append(p.Holes, h)
	}
	atoms := map[*boxes.Box]*mark{}
	items, tree := modelScript(b, &w, func(k *boxes.Box) lines.Item {
		a, base := t.own(k, w, ch)
		atoms[k] = a
		it := lines.Item{W: a.rect.W + marginsAt(k, api.PWidth, &w), H: a.rect.H + marginsAt(k, api.PHeight, &w)}
		it.Base = it.H
		if base != nil && word(k, api.POverflow) == "visible" {
			it.Base = *base + marginAt(k, above, &w)
		}
		return it
	})
	list, err := lines.Lay(p, items)
	m.rect = api.Rect{X: x, Y: s.at(), W: w}
	if err != nil || len(list) == 0 {
		return m
	}
	s.set()
	for _, l := range list {
		for _, k := range t.line(l, l.Frags, tree, atoms, w, ch) {
			m.kids = append(m.kids, k.shift(x, s.y))
		}
	}
	last := list[len(list)-1]
	base := s.y + last.Base
	s.base = &base
	m.rect.H = last.Y + last.H
	s.y += m.rect.H
	return m
}

// line: the marks of a line, of some boxes, by the pieces that it has of them.
func (t *telling) line(l lines.Line, all []lines.Frag, tree []stretchOf, atoms map[*boxes.Box]*mark, w int, ch *int) []*mark {
	var out []*mark
	for _, s := range tree {
		var some []lines.Frag
		for _, f := range all {
			if f.Item >= s.from && f.Item < s.to {
				some = append(some, f)
			}
		}
		if len(some) == 0 {
			continue
		}
		first, last := some[0], some[len(some)-1]
		m := &mark{box: s.box, cw: w, ch: ch, text: first.Text, rect: api.Rect{X: first.X, Y: first.Y, W: last.X + last.W - first.X, H: first.H}}
		switch s.box.Kind {
		case api.BAtom:
			m = atoms[s.box].shift(first.X+marginAt(s.box, left, &w), first.Y+marginAt(s.box, above, &w))
		case api.BInline:
			m.text = ""
			if first.Item == s.from {
				m.rect.X += marginAt(s.box, left, &w)
				m.rect.W -= marginAt(s.box, left, &w)
			}
			if last.Item == s.to-1 {
				m.rect.W -= marginAt(s.box, right, &w)
			}
			size := number(s.box, api.PSize)
			m.rect.Y = l.Base - s.rise - ink.Ascent(size) - edgeAt(s.box, above, &w)
			m.rect.H = ink.Ascent(size) + ink.Descent(size) + edgesAt(s.box, api.PHeight, &w)
			m.kids = t.line(l, all, s.kids, atoms, w, ch)
		}
		out = append(out, m)
	}
	return out
}

// inOrder of the kids: the marks of items, and places of others.
func (t *telling) inOrder(b *boxes.Box, marks []*mark) []*mark {
	var out []*mark
	for _, k := range b.Kids {
		if isAbsolute(k) {
			out = append(out, &mark{box: k, late: true})
		}
		for _, m := range marks {
			if m.box == k {
				out = append(out, m)
			}
		}
	}
	return out
}

func howOf(b, around *boxes.Box) string {
	if word(b, api.PSelf) == "auto" {
		return word(around, api.PItems)
	}
	return word(b, api.PSelf)
}

func stand(size, room int, how string) int {
	return flex.Stand(size, room, map[string]int{"end": 1, "center": 2}[how])
}

func spread(b *boxes.Box, l []int, room, gap int) []int {
	places := flex.Spread(l, room, gap, slices.Index(strings.Fields("start end center between around evenly"), word(b, api.PJustify)))
	if strings.HasSuffix(word(b, api.PDirection), "reverse") {
		for n := range places {
			places[n] = room - l[n] - places[n]
		}
	}
	return places
}

func (t *telling) flex(b *boxes.Box, w int, high *int, cw int, ch *int) ([]*mark, int) {
	gapX, gapY := lengthAt(b, api.PGapCol, &cw), lengthAt(b, api.PGapRow, ch)
	items := itemsOf(b)
	if strings.HasPrefix(word(b, api.PDirection), "column") {
		return t.column(b, items, w, high, gapY)
	}
	var wants []flex.Item
	for _, k := range items {
		base := or(modelLength(k.Style.V[api.PBasis], &w), or(innerAt(k, api.PWidth, &w, &w), t.reach(k, true)))
		wants = append(wants, flex.Item{Base: base, Min: or(innerAt(k, api.PMinWidth, &w, &w), 0), Max: or(innerAt(k, api.PMaxWidth, &w, &w), -1),
			Around: aboutAt(k, api.PWidth, &w), Grow: number(k, api.PGrow), Shrink: number(k, api.PShrink)})
	}
	var marks []*mark
	rows := flex.Rows(wants, w, gapX, word(b, api.PWrap) == "wrap")
	y := 0
	for n, count := range rows {
		y += min(n, 1) * gapY
		row := items[len(marks) : len(marks)+count]
		inner := flex.Share(wants[len(marks):len(marks)+count], w, gapX)
		tall := 0
		var outer []int
		for i, k := range row {
			m, _ := t.strand(k, inner[i], toldHeight(k, w, high), w, high, false)
			tall = max(tall, m.rect.H+marginsAt(k, api.PHeight, &w))
			outer = append(outer, inner[i]+aboutAt(k, api.PWidth, &w))
		}
		if len(rows) == 1 && high != nil {
			tall = *high
		}
		for i, x := range spread(b, outer, w, gapX) {
			marks = append(marks, t.standing(row[i], inner[i], w, high, x, y, tall, howOf(row[i], b)))
		}
		y += tall
	}
	return t.inOrder(b, marks), y
}

// standing: an item in a row or an area.
func (t *telling) standing(k *boxes.Box, inner, cw int, ch *int, x, y, tall int, how string) *mark {
	own := toldHeight(k, cw, ch)
	if own == nil && how == "stretch" {
		n := within(k, api.PHeight, tall-aboutAt(k, api.PHeight, &cw), ch, &cw)
		own = &n
	}
	m, _ := t.strand(k, inner, own, cw, ch, false)
	return m.shift(x+marginAt(k, left, &cw), y+stand(m.rect.H+marginsAt(k, api.PHeight, &cw), tall, how)+marginAt(k, above, &cw))
}

func (t *telling) column(b *boxes.Box, items []*boxes.Box, w int, high *int, gap int) ([]*mark, int) {
	var wants []flex.Item
	var inner, highs, outer []int
	for _, k := range items {
		room := w - aboutAt(k, api.PWidth, &w)
		n := t.fit(k, room)
		if howOf(k, b) == "stretch" {
			n = room
		}
		n = within(k, api.PWidth, or(innerAt(k, api.PWidth, &w, &w), n), &w, &w)
		inner = append(inner, n)
		m, _ := t.strand(k, n, nil, w, high, false)
		base := or(modelLength(k.Style.V[api.PBasis], high), or(innerAt(k, api.PHeight, high, &w), m.rect.H-edgesAt(k, api.PHeight, &w)))
		wants = append(wants, flex.Item{Base: base, Min: or(innerAt(k, api.PMinHeight, high, &w), 0), Max: or(innerAt(k, api.PMaxHeight, high, &w), -1),
			Around: aboutAt(k, api.PHeight, &w), Grow: number(k, api.PGrow), Shrink: number(k, api.PShrink)})
		highs = append(highs, within(k, api.PHeight, base, high, &w))
	}
	if high != nil {
		highs = flex.Share(wants, *high, gap)
	}
	for n := range items {
		outer = append(outer, highs[n]+wants[n].Around)
	}
	need := together(outer, gap)
	var marks []*mark
	for n, y := range spread(b, outer, or(high, need), gap) {
		m, _ := t.strand(items[n], inner[n], &highs[n], w, high, false)
		x := stand(m.rect.W+marginsAt(items[n], api.PWidth, &w), w, howOf(items[n], b))
		marks = append(marks, m.shift(x+marginAt(items[n], left, &w), y+marginAt(items[n], above, &w)))
	}
	return t.inOrder(b, marks), need
}

func (t *telling) grid(b *boxes.Box, w int, high *int, cw int, ch *int) ([]*mark, int) {
	gapX, gapY := lengthAt(b, api.PGapCol, &cw), lengthAt(b, api.PGapRow, ch)
	cells, items := cellsOf(b), itemsOf(b)
	cols := t.columns(b, w, gapX, true)
	begin := func(l []int, n, gap int) int { return together(l[:n-1], gap) + min(n-1, 1)*gap }
	areaOf := func(l []int, n, span, gap int) int { return together(l[n-1:n-1+span], gap) }
	var needs []grid.Need
	var inner, areas []int
	for n, k := range items {
		area := areaOf(cols, cells[n].Col, cells[n].ColSpan, gapX)
		areas = append(areas, area)
		inner = append(inner, within(k, api.PWidth, or(innerAt(k, api.PWidth, &area, &area), area-aboutAt(k, api.PWidth, &area)), &area, &area))
		m, _ := t.strand(k, inner[n], toldHeight(k, area, high), area, high, false)
		needs = append(needs, grid.Need{From: cells[n].Row, Span: cells[n].RowSpan, Size: m.rect.H + marginsAt(k, api.PHeight, &area)})
	}
	rows := grid.Tracks(tracksOf(b, api.PRows), needs, or(high, -1), gapY)
	var marks []*mark
	for n, k := range items {
		c := cells[n]
		marks = append(marks, t.standing(k, inner[n], areas[n], high, begin(cols, c.Col, gapX), begin(rows, c.Row, gapY), areaOf(rows, c.Row, c.RowSpan, gapY), howOf(k, b)))
	}
	return t.inOrder(b, marks), together(rows, gapY)
}

// late: a place becomes what was to stand there.
func (t *telling) late(all, m *mark) {
	box := api.Rect{W: t.wide, H: t.high}
	for b := t.up[m.box]; b != nil && word(m.box, api.PPosition) == "absolute"; b = t.up[b] {
		at := slices.IndexFunc(all.walk(), func(o *mark) bool { return o.box == b })
		if at >= 0 && word(b, api.PPosition) != "static" {
			r := all.walk()[at].rect
			l, a := number(b, api.PBorderLeft), number(b, api.PBorderTop)
			box = api.Rect{X: r.X + l, Y: r.Y + a, W: r.W - l - number(b, api.PBorderRight), H: r.H - a - number(b, api.PBorderBottom)}
			break
		}
	}
	b := m.box
	solve := func(at, from, to, side, other, room, start, fit int) (int, int) {
		f, e, n := modelLength(b.Style.V[from], &room), modelLength(b.Style.V[to], &room), innerAt(b, at, &room, &box.W)
		place, margin, inner, _ := flows.Fixed{Room: room, From: or(f, 0), To: or(e, 0), Left: marginAt(b, side, &box.W), Inner: or(n, 0), Right: marginAt(b, other, &box.W),
			Around: edgesAt(b, at, &box.W), Fit: fit, Min: or(innerAt(b, at+1, &room, &box.W), 0), Max: or(innerAt(b, at+2, &room, &box.W), -1),
			AutoFrom: f == nil, AutoTo: e == nil, AutoLeft: word(b, api.PMarginTop+side) == "auto", AutoInner: n == nil, AutoRight: word(b, api.PMarginTop+other) == "auto", At: start}.Solve()
		return place + margin, inner
	}
	fit := t.fit(b, box.W-lengthAt(b, api.PLeft, &box.W)-lengthAt(b, api.PRight, &box.W)-aboutAt(b, api.PWidth, &box.W))
	x, inner := solve(api.PWidth, api.PLeft, api.PRight, left, right, box.W, m.rect.X-box.X, fit)
	free, _ := t.strand(b, inner, nil, box.W, &box.H, true)
	y, high := solve(api.PHeight, api.PTop, api.PBottom, above, below, box.H, m.rect.Y-box.Y, free.rect.H-edgesAt(b, api.PHeight, &box.W))
	n, _ := t.strand(b, inner, &high, box.W, &box.H, false)
	*m = *n.shift(box.X+x, box.Y+y)
}

// whole: all marks of a page.
func whole(b *boxes.Box, wide, high int) *mark {
	t := &telling{up: map[*boxes.Box]*boxes.Box{}, wide: wide, high: high}
	var climb func(b *boxes.Box)
	climb = func(b *boxes.Box) {
		for _, k := range b.Kids {
			t.up[k] = b
			climb(k)
		}
	}
	climb(b)
	all := t.block(&stream{floats: flows.New(wide)}, b, 0, wide, &high)
	for again := true; again; {
		again = false
		for _, m := range all.walk() {
			if m.late {
				t.late(all, m)
				again = true
			}
		}
	}
	for _, m := range all.walk() {
		if m.box.Kind != api.BRun && word(m.box, api.PPosition) == "relative" {
			x, y := modelLength(m.box.Style.V[api.PLeft], &m.cw), modelLength(m.box.Style.V[api.PTop], m.ch)
			m.shift(or(x, -lengthAt(m.box, api.PRight, &m.cw)), or(y, -lengthAt(m.box, api.PBottom, m.ch)))
		}
	}
	return all
}

// hold what is laid against what is told.
func hold(t *testing.T, b *boxes.Box, wide, high int) string {
	t.Helper()
	var say func(m *mark, f *Frame, deep int) string
	say = func(m *mark, f *Frame, deep int) string {
		got := fmt.Sprint(f.Kind, " ", f.Node, " ", f.Text, f.Rect)
		want := fmt.Sprint(m.box.Kind, " ", m.box.Node, " ", m.text, m.rect)
		s := strings.Repeat(" ", deep) + got + "\n"
		if got != want || f.Style != m.box.Style || len(f.Kids) != len(m.kids) {
			return s + fmt.Sprint("! want ", want, ", kids ", len(f.Kids), len(m.kids), "\n")
		}
		for n, k := range m.kids {
			s += say(k, f.Kids[n], deep+1)
		}
		return s
	}
	return say(whole(b, wide, high), Lay(b, wide, high), 0)
}
