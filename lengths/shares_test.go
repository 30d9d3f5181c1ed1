package lengths

import (
	"math"
	"slices"
	"testing"
)

// Shares come to the whole, rounded down where each ends, below 0 too; weights of less than the least take less.
func TestShares(t *testing.T) {
	for _, c := range []struct {
		amount  int
		weights []int
		least   int
		want    []int
	}{
		{10, nil, 0, nil},
		{10, nil, 1000, nil},
		{10, []int{0, 0}, 0, []int{0, 0}},
		{10, []int{0, 0}, 1000, []int{0, 0}},
		{10, []int{1, 1, 1}, 0, []int{3, 3, 4}},
		{-10, []int{1, 1, 1}, 0, []int{-4, -3, -3}},
		{-9, []int{1, 1, 1}, 0, []int{-3, -3, -3}},
		{80, []int{1000, 0, 2000}, 0, []int{26, 0, 54}},
		{100, []int{200, 300}, 0, []int{40, 60}},
		{100, []int{200, 300}, 499, []int{40, 60}},
		{100, []int{200, 300}, 500, []int{40, 60}},
		{100, []int{200, 300}, 1000, []int{20, 30}},
		{0, []int{1, 2}, 0, []int{0, 0}},
		{math.MaxInt, []int{1 << 60, 1 << 60}, 0, []int{math.MaxInt / 2, math.MaxInt/2 + 1}},
		{-math.MaxInt, []int{1 << 60, 1 << 60}, 0, []int{-math.MaxInt/2 - 1, -math.MaxInt / 2}},
		{math.MaxInt, []int{1 << 60, 1 << 60}, math.MaxInt, []int{1 << 60, 1 << 60}},
	} {
		if got := Shares(c.amount, c.weights, c.least); !slices.Equal(got, c.want) {
			t.Errorf("%+v: %v", c, got)
		}
	}
}
