package paint

import (
	"casement/api"
)

// nothing: the color of what is not painted.
const nothing = -1

// marks of a frame alone.
func (s *sight) marks() []Mark {
	if s.Style.V[api.PVisible].Text != "visible" {
		return nil
	}
	box := areaOf(s.Rect)
	if s.Kind == api.BRun {
		return s.mark(nil, api.PColor, s.Text, box)
	}
	l := s.mark(nil, api.PBackground, "", box)
	return s.mark(l, api.PBorderColor, "", s.sides()...)
}

// mark areas of a frame with the color that a property tells: of each what lies in the frame and is left of it.
func (s *sight) mark(l []Mark, property int, text string, areas ...area) []Mark {
	color := s.Style.V[property].N
	if color == nothing {
		return l
	}
	left := areaOf(s.Rect).and(s.cut)
	for _, a := range areas {
		if r, ok := a.and(left).rect(); ok {
			l = append(l, Mark{Node: s.Node, Color: color, Rect: r, Text: text})
		}
	}
	return l
}

// sides: where the borders lie: above, right, below, left.
func (s *sight) sides() []area {
	box, inner := areaOf(s.Rect), s.inner()
	return []area{
		{box.left, box.above, box.right, inner.above},
		{inner.right, inner.above, box.right, inner.below},
		{box.left, inner.below, box.right, box.below},
		{box.left, inner.above, inner.left, inner.below},
	}
}
