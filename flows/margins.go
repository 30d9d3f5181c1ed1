package flows

// Margin: margins that meet.
type Margin struct{ Up, Down int }

// Of one number.
func Of(n int) Margin {
	hold(&n)
	return Margin{max(n, 0), min(n, 0)}
}

// Join both.
func (m Margin) Join(o Margin) Margin {
	hold(&m.Up, &m.Down, &o.Up, &o.Down)
	return Margin{max(m.Up, o.Up), min(m.Down, o.Down)}
}

// Size of it.
func (m Margin) Size() int {
	hold(&m.Up, &m.Down)
	return m.Up + m.Down
}
