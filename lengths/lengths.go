// Package lengths: what numbers that are handed over as lengths are held to.
package lengths

import (
	"casement/api"
)

// Hold each number to what a length may be.
func Hold(numbers ...*int) {
	for _, n := range numbers {
		*n = min(max(*n, -api.MaxLen), api.MaxLen)
	}
}

// Bounded: a length held by its bounds (a least one below 0 is 0, a greatest one below 0 is none; the least one counts ahead of the greatest); anew: one of them counts.
func Bounded(n, least, most int) (held int, anew bool) {
	if most >= 0 && n > most {
		n, anew = most, true
	}
	if least = max(least, 0); n < least {
		n, anew = least, true
	}
	return n, anew
}
