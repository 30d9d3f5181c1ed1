package fresh

import (
	"maps"

	"casement/boxes"
	"casement/cascade"
	"casement/frame"
)

// Kinds of work.
const (
	ofStyles = iota // how many were worked out
	ofFrames        // how often a page was laid
	works
)

// kept: what was worked out, of what, and how much that was.
type kept struct {
	asked   asked
	changed bool         // so much that the faces may be others now
	faces   map[int]face // as they were when it was looked at them last
	closet  *cascade.Closet
	frame   *frame.Frame
	laid    bool // the frame is that of the faces
	work    [works]int
}

// refresh: what may be otherwise by now than it was worked out is forgotten.
func (p *Page) refresh() {
	if !p.changed {
		return
	}
	p.changed = false
	c := comparison{was: p.faces, is: p.look()}
	c.compare(document, true)
	// Somewhere below an element anything may have become what it is asked to have.
	if c.differs && p.asked.names["has"] > 0 {
		c.same = nil
	}
	p.laid = p.laid && !c.differs && maps.EqualFunc(c.was, c.is, face.hasKids)
	p.faces = c.is
	p.closet.Turn(p.state, c.same)
}

// has: the page has an element in its root.
func (p *Page) has(id int) bool {
	_, ok := p.faces[id]
	return ok && id != document
}

// style of an element in the root, when all has been refreshed.
func (p *Page) style(id int) cascade.Style {
	s, n := p.closet.Style(id)
	p.work[ofStyles] += n
	return s
}

// lay the page, if it is not laid as it is now.
func (p *Page) lay() *frame.Frame {
	p.refresh()
	if p.laid {
		return p.frame
	}
	p.laid, p.frame = true, nil
	if root := p.root(); root != none {
		styles := make(map[int]*cascade.Style)
		for _, id := range p.elements() {
			s := p.style(id)
			styles[id] = &s
		}
		p.work[ofFrames]++
		wide, high := p.parts()
		p.frame = frame.Lay(boxes.Dress(p.tree, root, styles), wide, high)
	}
	return p.frame
}
