package fresh

import (
	"slices"

	"casement/cascade"
	"casement/frame"
)

// copyOf a style.
func copyOf(s cascade.Style) cascade.Style {
	return cascade.Style{V: slices.Clone(s.V), Vars: slices.Clone(s.Vars)}
}

// copyAll of a frame and of what lies in it. What had one style has one in the copy, too: there may be thousands of frames.
func copyAll(f *frame.Frame) *frame.Frame {
	if f == nil {
		return nil
	}
	styles := make(map[*cascade.Style]*cascade.Style)
	var twin func(*frame.Frame) *frame.Frame
	twin = func(f *frame.Frame) *frame.Frame {
		if styles[f.Style] == nil {
			s := copyOf(*f.Style)
			styles[f.Style] = &s
		}
		g := *f
		g.Style, g.Kids = styles[f.Style], nil
		for _, kid := range f.Kids {
			g.Kids = append(g.Kids, twin(kid))
		}
		return &g
	}
	return twin(f)
}
