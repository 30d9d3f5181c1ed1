// Package lengths: what numbers and lists that are handed over are held to, and how lengths are shared.
package lengths

import (
	"casement/api"
)

// Hold each number to what a length may be.
func Hold(numbers ...*int) {
	for _, n := range numbers {
		*n = min(max(*n, -api.MaxLen), api.MaxLen)
	}
}

// Bounded: a length held by its bounds (a least one below 0 is 0, a greatest one below 0 is none; the least one counts ahead of the greatest); anew: one of them counts.
func Bounded(n, least, most int) (held int, anew bool) {
	if most >= 0 && n > most {
		n, anew = most, true
	}
	if least = max(least, 0); n < least {
		n, anew = least, true
	}
	return n, anew
}

// Factor: a number as it counts as one, in thousandths.
func Factor(n int) int {
	return min(max(n, 0), api.MaxNum*1000)
}

// Firsts of a list of anything: at most so many (of less than none: none). It is a piece of the list itself.
func Firsts[T any](l []T, most int) []T {
	return l[:min(len(l), max(most, 0))]
}

// Gaps between so many things, together.
func Gaps(things, gap int) int {
	return max(things-1, 0) * gap
}

// Over: n over a number above 0, rounded down where Go's own way is towards 0.
func Over(n, by int) int {
	whole := n / by
	if n%by < 0 {
		whole--
	}
	return whole
}
