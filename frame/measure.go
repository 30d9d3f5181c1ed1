package frame

import (
	"casement/api"
	"casement/flows"
)

// measure: what a box's values come to in a room.
type measure struct {
	margin, border sides
	edges          sides // borders and paddings
	across, down   span
}

func (p *part) measure(in room) measure {
	m := measure{margin: p.sides(api.PMarginTop, in.wide), border: p.sides(api.PBorderTop, in.wide)}
	m.edges = m.border.and(p.sides(api.PPaddingTop, in.wide))
	m.across = p.span(api.PWidth, in.wide, m.edges.across())
	m.down = p.span(api.PHeight, in.high, m.edges.down())
	// A height is held by 0, too, where its least one is part of nothing.
	m.down.least.told = true
	return m
}

// about: edges and margins.
func (m measure) about() sides { return m.margin.and(m.edges) }

// span: how far a box is to reach within, in one direction, and its bounds.
type span struct{ want, least, most size }

// span that three properties tell, which stand one behind the other.
func (p *part) span(first int, of size, edges int) span {
	if !p.says(api.PBoxSizing, "border-box") {
		edges = 0
	}
	n := func(at int) size { return lengthOf(p.Style.V[first+at], of).less(edges) }
	return span{n(0), n(1), n(2)}
}

// bounded: a size held by the bounds that are told.
func (s span) bounded(n int) int {
	if s.most.told {
		n = min(n, s.most.n)
	}
	if s.least.told {
		n = max(n, s.least.n)
	}
	return n
}

// held: what is told, bounded.
func (s span) held() size {
	if !s.want.told {
		return size{}
	}
	return told(s.bounded(s.want.n))
}

// auto: whether a property says so.
func (p *part) auto(at int) bool { return p.says(at, "auto") }

// solve the width of a block in a room: its left margin, and how wide it is within.
func (p *part) solve(m measure, in room) (left, wide int) {
	left, wide, _ = flows.Width{
		Room: in.wide.n, Around: m.edges.across(),
		Left: m.margin.left, Inner: m.across.want.n, Right: m.margin.right,
		Min: m.across.least.n, Max: m.across.most.orBelow0(),
		AutoLeft: p.auto(api.PMarginLeft), AutoInner: !m.across.want.told, AutoRight: p.auto(api.PMarginRight),
	}.Solve()
	return left, wide
}
