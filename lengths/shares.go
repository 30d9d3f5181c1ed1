package lengths

import (
	"math/bits"
)

// Shares of an amount by weights, none of them below 0, of all of these together, or of least, if that is more. Each reaches from where the one ahead ends, so that they come to the whole, however they are rounded.
func Shares(amount int, weights []int, least int) []int {
	all := 0
	for _, w := range weights {
		all += w
	}
	l := make([]int, len(weights))
	if all == 0 {
		return l
	}
	all = max(all, least)
	sum, from := 0, 0
	for k, w := range weights {
		sum += w
		to := portion(amount, sum, all)
		l[k] = to - from
		from = to
	}
	return l
}

// portion of an amount: n of all, where n is not above all; rounded down, below 0 too. Amount times n may be more than 64 bits hold.
func portion(amount, n, all int) int {
	high, low := bits.Mul64(uint64(max(amount, -amount)), uint64(n))
	whole, rest := bits.Div64(high, low, uint64(all))
	if amount >= 0 {
		return int(whole)
	}
	if rest > 0 {
		whole++
	}
	return -int(whole)
}
