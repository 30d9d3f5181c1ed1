// Package flows: margins that meet, floats, widths: see ../shared/doc/09-flows.md.
package flows

import (
	"casement/lengths"
)

// Margin: margins that meet.
type Margin struct{ Up, Down int }

// Of one number.
func Of(n int) Margin {
	lengths.Hold(&n)
	return Margin{max(n, 0), min(n, 0)}
}

// Join both.
func (m Margin) Join(o Margin) Margin {
	lengths.Hold(&m.Up, &m.Down, &o.Up, &o.Down)
	return Margin{max(m.Up, o.Up), min(m.Down, o.Down)}
}

// Size of it.
func (m Margin) Size() int {
	lengths.Hold(&m.Up, &m.Down)
	return m.Up + m.Down
}
