package flows

import (
	"slices"

	"casement/api"
	"casement/lengths"
)

// Floats in a room.
type Floats struct {
	list      *[]Float // of all rooms that are told of the same floats
	low, high int
}

// Float: on which side, where.
type Float struct {
	Right bool
	Rect  api.Rect
}

// New: a room without floats.
func New(width int) *Floats {
	return (&Floats{list: new([]Float)}).In(0, width)
}

// In: the same floats, told in another room.
func (f *Floats) In(low, high int) *Floats {
	lengths.Hold(&low, &high)
	return &Floats{f.list, low, max(low, high)}
}

// Add one more; where it lies.
func (f *Floats) Add(right bool, w, h, from int) (x, y int) {
	if len(*f.list) >= api.MaxItems {
		return 0, 0
	}
	lengths.Hold(&w, &h, &from)
	w, h = max(w, 0), max(h, 0)
	for _, o := range *f.list {
		from = max(from, o.Rect.Y)
	}
	y, g := f.fall(w, h, from)
	x = g.left
	if right {
		x = g.right - w
	}
	*f.list = append(*f.list, Float{right, api.Rect{X: x, Y: y, W: w, H: h}})
	return x, y
}

// Drop: the least height, from y on, at which what is so wide, and flat, has room beside the floats that are there, or none is; and where the room that they leave begins there. The room is held, as In has it; the width and y are not: what many lengths make together, one below or beside the other, lies further out than one of them reaches.
func (f *Floats) Drop(w, y int) (l, at int) {
	at, g := f.fall(w, 0, y)
	return g.left, at
}

// fall: the least height, from y on, at which what is so wide and high may lie, and the gap there.
func (f *Floats) fall(w, h, y int) (int, gap) {
	next := f.heights(y)
	y = next()
	g := f.gap(y, h)
	for !g.takes(w) {
		y = next()
		g = f.gap(y, h)
	}
	return y, g
}

// heights from y on at which there may be room for something, from the least on, the next one with each call. There is more room only where a float ends; where the last one does, none is in the way any more, and nobody asks for a further one.
func (f *Floats) heights(y int) func() int {
	list := []int{y}
	for _, o := range *f.list {
		if o.foot() > y {
			list = append(list, o.foot())
		}
	}
	slices.Sort(list)
	return func() int {
		first := list[0]
		list = list[1:]
		return first
	}
}

// foot: where a float ends that is in the way of others; none is so flat that it is not.
func (o Float) foot() int {
	return o.Rect.Y + max(o.Rect.H, 1)
}

// gap between the floats on both sides of a room.
type gap struct {
	left, right int
	whole       bool // no float reaches in
}

// gap from y on, h high.
func (f *Floats) gap(y, h int) gap {
	g := gap{f.low, f.high, true}
	for _, o := range *f.list {
		// Of the two, y alone may be as great as a number can be.
		if o.Rect.Y-max(h, 1) >= y || y >= o.foot() {
			continue
		}
		g.whole = false
		if o.Right {
			g.right = min(g.right, o.Rect.X)
		} else {
			g.left = max(g.left, o.Rect.X+o.Rect.W)
		}
	}
	return g
}

// takes: whether what is so wide may lie there. What is too wide for the room lies where it is alone.
func (g gap) takes(w int) bool {
	return g.whole || w <= g.right-g.left
}

// Edges of what is there between two heights.
func (f *Floats) Edges(y, h int) (l, r int) {
	lengths.Hold(&y, &h)
	g := f.gap(y, h)
	return g.left, g.right
}

// Clear: where the floats of some sides end.
func (f *Floats) Clear(left, right bool) int {
	low, found := 0, false
	for _, o := range *f.list {
		if o.Right && !right || !o.Right && !left {
			continue
		}
		// All of them may end above 0: that is no end of them.
		end := o.Rect.Y + o.Rect.H
		if !found || end > low {
			low, found = end, true
		}
	}
	return low
}

// All floats, as they came.
func (f *Floats) All() []Float {
	return slices.Clone(*f.list)
}
