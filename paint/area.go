package paint

import (
	"math"

	"casement/api"
)

// area between four edges. Nothing lies in it, if the right one is not beyond the left one, or the lower one not beyond the upper one.
type area struct{ left, above, right, below int }

// everywhere: an area that leaves all of what lies in it.
func everywhere() area {
	return area{math.MinInt, math.MinInt, math.MaxInt, math.MaxInt}
}

// areaOf a rect.
func areaOf(r api.Rect) area {
	return area{r.X, r.Y, r.X + r.W, r.Y + r.H}
}

// and: what lies in both.
func (a area) and(o area) area {
	return area{max(a.left, o.left), max(a.above, o.above), min(a.right, o.right), min(a.below, o.below)}
}

// less so much on each side of it.
func (a area) less(sides area) area {
	return area{a.left + sides.left, a.above + sides.above, a.right - sides.right, a.below - sides.below}
}

// rect that an area is; false: nothing lies in it.
func (a area) rect() (api.Rect, bool) {
	if a.right <= a.left || a.below <= a.above {
		return api.Rect{}, false
	}
	return api.Rect{X: a.left, Y: a.above, W: a.right - a.left, H: a.below - a.above}, true
}
