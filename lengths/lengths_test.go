package lengths

import (
	"math"
	"slices"
	"testing"

	"casement/api"
)

// Each number of more than MaxLen in size is MaxLen in size; any number of them may be handed over.
func TestHold(t *testing.T) {
	l := []int{math.MinInt, -api.MaxLen - 1, -api.MaxLen, -1, 0, 1, api.MaxLen, api.MaxLen + 1, math.MaxInt}
	want := []int{-api.MaxLen, -api.MaxLen, -api.MaxLen, -1, 0, 1, api.MaxLen, api.MaxLen, api.MaxLen}
	var all []*int
	for at := range l {
		all = append(all, &l[at])
	}
	Hold(all...)
	if !slices.Equal(l, want) {
		t.Error(l)
	}
	Hold()
}

// A length is held by the greatest, then by the least; which of them count is told.
func TestBounded(t *testing.T) {
	for _, c := range []struct {
		n, least, most, want int
		anew                 bool
	}{
		{50, 0, -1, 50, false},
		{50, 0, 50, 50, false},
		{50, 0, 49, 49, true},
		{50, 0, 0, 0, true},
		{50, 50, -1, 50, false},
		{50, 51, -1, 51, true},
		{50, 60, 40, 60, true},
		{50, 45, 40, 45, true},
		{-1, 0, -1, 0, true},
		{-1, -5, -1, 0, true},
		{0, -5, -7, 0, false},
		{math.MaxInt, math.MinInt, math.MinInt, math.MaxInt, false},
		{math.MinInt, math.MaxInt, 0, math.MaxInt, true},
	} {
		if got, anew := Bounded(c.n, c.least, c.most); got != c.want || anew != c.anew {
			t.Errorf("%+v: %d, %v", c, got, anew)
		}
	}
}
