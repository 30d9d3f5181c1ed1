package paint

import (
	"cmp"
	"slices"
)

// order in which frames are painted.
type order []*sight

// ordered: all frames of a page.
func ordered(root *sight) []*sight {
	var o order
	o.layer(root)
	return o
}

// layer: all frames of a layer and of those below in it. What is lifted stands among the layers of the depth 0, so that both keep the frames' order.
func (o *order) layer(s *sight) {
	placed := s.pick((*sight).isPlaced, (*sight).isLayer)
	slices.SortStableFunc(placed, func(a, b *sight) int { return cmp.Compare(a.depth(), b.depth()) })
	*o = append(*o, s)
	for len(placed) > 0 && placed[0].depth() < 0 {
		o.layer(placed[0])
		placed = placed[1:]
	}
	o.within(s)
	for _, k := range placed {
		if k.isLayer() {
			o.layer(k)
		} else {
			o.group(k)
		}
	}
}

// group: a frame that is painted as if it were a layer, but for what is placed in it.
func (o *order) group(s *sight) {
	*o = append(*o, s)
	o.within(s)
}

// within: what lies in a frame: blocks, what floats, and what stands in lines.
func (o *order) within(s *sight) {
	blocks := func(k *sight) bool { return k.isBlock() && !k.isApart() }
	floats := func(k *sight) bool { return k.isFloating() && !k.isPlaced() }
	others := func(k *sight) bool { return !k.isBlock() && !k.isFloating() && !k.isPlaced() }
	*o = append(*o, s.pick(blocks, (*sight).isApart)...)
	for _, k := range s.pick(floats, (*sight).isApart) {
		o.group(k)
	}
	for _, k := range s.pick(others, (*sight).isApart) {
		if k.isApart() {
			o.group(k)
		} else {
			*o = append(*o, k)
		}
	}
}

// pick the frames that are wanted of those in a frame, in their order, each ahead of what lies in it; what lies in one that is closed is not looked at.
func (s *sight) pick(wanted, closed func(*sight) bool) []*sight {
	var l []*sight
	var look func(*sight)
	look = func(s *sight) {
		for _, k := range s.kids {
			if wanted(k) {
				l = append(l, k)
			}
			if !closed(k) {
				look(k)
			}
		}
	}
	look(s)
	return l
}
