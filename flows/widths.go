package flows

import (
	"casement/lengths"
)

// Width of a block in a room.
type Width struct {
	Room, Left, Inner, Right, Around, Min, Max int
	AutoLeft, AutoInner, AutoRight             bool
}

// Solve: both margins and what is within.
func (w Width) Solve() (left, inner, right int) {
	lengths.Hold(&w.Room, &w.Left, &w.Inner, &w.Right, &w.Around, &w.Min, &w.Max)
	s := sidesOf(w.Left, w.Right, w.AutoLeft, w.AutoRight)
	free := w.Room - w.Around - s.left - s.right
	if w.AutoInner {
		w.Inner = max(free, 0)
	}
	inner, anew := lengths.Bounded(w.Inner, w.Min, w.Max)
	if w.AutoInner && !anew {
		return s.left, inner, s.right
	}
	s.take(free - inner)
	if !w.AutoLeft && !w.AutoRight {
		s.right += free - inner
	}
	return s.left, inner, s.right
}

// Fixed: the same of what lies at a place.
type Fixed struct {
	Room, From, To, Left, Inner, Right, Around, Fit, Min, Max, At int
	AutoFrom, AutoTo, AutoLeft, AutoInner, AutoRight              bool
}

// Solve: where it begins, both margins, what is within.
func (f Fixed) Solve() (from, left, inner, right int) {
	lengths.Hold(&f.Room, &f.From, &f.To, &f.Left, &f.Inner, &f.Right, &f.Around, &f.Fit, &f.Min, &f.Max, &f.At)
	s := sidesOf(f.Left, f.Right, f.AutoLeft, f.AutoRight)
	free := f.Room - f.Around - s.left - s.right
	both := !f.AutoFrom && !f.AutoTo
	inner, anew := lengths.Bounded(f.first(free, both), f.Min, f.Max)
	if both && (!f.AutoInner || anew) {
		s.take(free - f.From - f.To - inner)
	}
	return f.begin(free - inner), s.left, inner, s.right
}

// first: what is within, ahead of its bounds; both: From and To are told.
func (f Fixed) first(free int, both bool) int {
	switch {
	case !f.AutoInner:
		return f.Inner
	case both:
		return max(free-f.From-f.To, 0)
	}
	return f.Fit
}

// begin: where it does, if so much is left of the room.
func (f Fixed) begin(free int) int {
	switch {
	case !f.AutoFrom:
		return f.From
	case !f.AutoTo:
		return free - f.To
	}
	return f.At
}

// sides: margins on both; those that are auto are 0 until they take what is left.
type sides struct {
	left, right         int
	autoLeft, autoRight bool
}

func sidesOf(left, right int, autoLeft, autoRight bool) sides {
	if autoLeft {
		left = 0
	}
	if autoRight {
		right = 0
	}
	return sides{left, right, autoLeft, autoRight}
}

// take what is left, if some side is auto.
func (s *sides) take(rest int) {
	switch {
	case s.autoLeft && s.autoRight:
		s.left = max(rest, 0) / 2
		s.right = rest - s.left
	case s.autoLeft:
		s.left = rest
	case s.autoRight:
		s.right = rest
	}
}
