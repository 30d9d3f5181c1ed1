package paint

import (
	"casement/api"
	"casement/frame"
)

// sight: a frame as it is seen, with the area that the frames around it leave.
type sight struct {
	*frame.Frame
	cut  area
	kids []*sight
}

// seen: a frame, and all that lies in it.
func seen(f *frame.Frame, cut area) *sight {
	s := &sight{Frame: f, cut: cut}
	if s.own(api.POverflow).Text == "hidden" {
		cut = cut.and(s.inner())
	}
	for _, kid := range f.Kids {
		s.kids = append(s.kids, seen(kid, cut))
	}
	return s
}

// own value of a property of boxes. A run's style is its element's, and tells nothing of the run itself.
func (s *sight) own(property int) api.Value {
	if s.Kind == api.BRun {
		return api.Value{}
	}
	return s.Style.V[property]
}

// borders: how wide they are.
func (s *sight) borders() area {
	return area{s.own(api.PBorderLeft).N, s.own(api.PBorderTop).N, s.own(api.PBorderRight).N, s.own(api.PBorderBottom).N}
}

// inner box: the border box less the borders.
func (s *sight) inner() area {
	return areaOf(s.Rect).less(s.borders())
}

// left of it when it is cut; false: nothing. What nothing is taken from is left, also if it has no width or height: then there is nothing to take.
func (s *sight) left() (api.Rect, bool) {
	whole := areaOf(s.Rect)
	if left := whole.and(s.cut); left != whole {
		return left.rect()
	}
	return s.Rect, true
}

// isPlaced: it makes a layer, or is lifted.
func (s *sight) isPlaced() bool {
	switch s.own(api.PPosition).Text {
	case "relative", "absolute", "fixed":
		return true
	}
	return false
}

// isLayer: it makes a layer of its own (the page's root, which makes one whatever it is, is never asked).
func (s *sight) isLayer() bool {
	return s.isPlaced() && s.own(api.PZ).Kind == api.VNumber
}

// depth of a layer; what is lifted stands among those of 0.
func (s *sight) depth() int {
	if s.isLayer() {
		return s.own(api.PZ).N
	}
	return 0
}

// isFloating: it floats, whatever it lies in.
func (s *sight) isFloating() bool {
	switch s.own(api.PFloat).Text {
	case "left", "right":
		return true
	}
	return false
}

// isApart: what lies in it is painted with it, not with what lies around it.
func (s *sight) isApart() bool {
	return s.isPlaced() || s.isFloating() || s.Kind == api.BAtom
}

// isBlock: one that lies below others, not in a line.
func (s *sight) isBlock() bool {
	switch s.Kind {
	case api.BBlock, api.BFlex, api.BGrid, api.BLines:
		return true
	}
	return false
}
