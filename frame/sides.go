package frame

// sides: a number for each side of a box.
type sides struct{ top, right, bottom, left int }

// sides that four properties tell, which stand one behind the other; of those that are not told it is 0.
func (p *part) sides(first int, of size) sides {
	n := func(at int) int { return lengthOf(p.Style.V[first+at], of).n }
	return sides{n(0), n(1), n(2), n(3)}
}

// and: both, side by side.
func (s sides) and(o sides) sides {
	return sides{s.top + o.top, s.right + o.right, s.bottom + o.bottom, s.left + o.left}
}

// across: left and right together.
func (s sides) across() int { return s.left + s.right }

// down: above and below together.
func (s sides) down() int { return s.top + s.bottom }
