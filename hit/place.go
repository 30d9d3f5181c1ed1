package hit

import (
	"casement/api"
	"casement/frame"
)

// takes: whether a frame can be what stands somewhere.
func takes(f *frame.Frame) bool {
	v := f.Style.V
	return f.Node != nobody && v[api.PVisible].Text == "visible" && v[api.PPointer].Text == "auto"
}

// has: whether a point lies in a rect: left and above count, right and below do not.
func has(r api.Rect, x, y int) bool {
	return x >= r.X && x < r.X+r.W && y >= r.Y && y < r.Y+r.H
}

// rects of a node, behind those of a list: of a frame and all that lies in it.
func rects(l []api.Rect, f *frame.Frame, id int) []api.Rect {
	if f.Node == id {
		l = append(l, f.Rect)
	}
	for _, kid := range f.Kids {
		l = rects(l, kid, id)
	}
	return l
}

// around any number of places: the least that has them all; false: there are none.
func around(places ...api.Rect) (api.Rect, bool) {
	if len(places) == 0 {
		return api.Rect{}, false
	}
	all := places[0]
	for _, p := range places[1:] {
		right, below := max(all.X+all.W, p.X+p.W), max(all.Y+all.H, p.Y+p.H)
		all.X, all.Y = min(all.X, p.X), min(all.Y, p.Y)
		all.W, all.H = right-all.X, below-all.Y
	}
	return all, true
}
