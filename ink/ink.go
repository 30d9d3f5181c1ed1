// Package ink: how wide texts are, and where lines may end: see ../shared/doc/01-ink.md.
package ink

import (
	"casement/api"
)

// Width of a text.
func Width(size int, text string) int {
	size = bounded(size)
	sum := 0
	for _, r := range text {
		// Each rune is rounded by itself, so that a text is as wide as its pieces, wherever it is cut.
		sum += size * api.Advance(r) / 1000
	}
	return sum
}

// Ascent: how high letters stand above their base.
func Ascent(size int) int {
	return bounded(size) * 4 / 5
}

// Descent: how low they reach below it.
func Descent(size int) int {
	return bounded(size) - Ascent(size)
}

// bounded keeps a size where products with it hold.
func bounded(size int) int {
	return min(max(size, 0), api.MaxLen)
}
