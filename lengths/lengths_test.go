package lengths

import (
	"math"
	"slices"
	"testing"

	"casement/api"
)

// Each number of more than MaxLen in size is MaxLen in size; any number of them may be handed over.
func TestHold(t *testing.T) {
	l := []int{math.MinInt, -api.MaxLen - 1, -api.MaxLen, -1, 0, 1, api.MaxLen, api.MaxLen + 1, math.MaxInt}
	want := []int{-api.MaxLen, -api.MaxLen, -api.MaxLen, -1, 0, 1, api.MaxLen, api.MaxLen, api.MaxLen}
	var all []*int
	for at := range l {
		all = append(all, &l[at])
	}
	Hold(all...)
	if !slices.Equal(l, want) {
		t.Error(l)
	}
	Hold()
}

// A length is held by the greatest, then by the least; which of them count is told.
func TestBounded(t *testing.T) {
	for _, c := range []struct {
		n, least, most, want int
		anew                 bool
	}{
		{50, 0, -1, 50, false},
		{50, 0, 50, 50, false},
		{50, 0, 49, 49, true},
		{50, 0, 0, 0, true},
		{50, 50, -1, 50, false},
		{50, 51, -1, 51, true},
		{50, 60, 40, 60, true},
		{50, 45, 40, 45, true},
		{-1, 0, -1, 0, true},
		{-1, -5, -1, 0, true},
		{0, -5, -7, 0, false},
		{math.MaxInt, math.MinInt, math.MinInt, math.MaxInt, false},
		{math.MinInt, math.MaxInt, 0, math.MaxInt, true},
	} {
		if got, anew := Bounded(c.n, c.least, c.most); got != c.want || anew != c.anew {
			t.Errorf("%+v: %d, %v", c, got, anew)
		}
	}
}

// A factor is not below 0, and not above what a number of a sheet may be, in thousandths.
func TestFactor(t *testing.T) {
	most := api.MaxNum * 1000
	for _, c := range [][2]int{{math.MinInt, 0}, {-1, 0}, {0, 0}, {1, 1}, {most - 1, most - 1}, {most, most}, {most + 1, most}, {math.MaxInt, most}} {
		if got := Factor(c[0]); got != c[1] {
			t.Error(c, got)
		}
	}
}

// The first ones of a list of anything.
func TestFirsts(t *testing.T) {
	l := []string{"a", "b", "c"}
	for most, want := range [][]string{nil, {"a"}, {"a", "b"}, l, l} {
		if got := Firsts(l, most); !slices.Equal(got, want) {
			t.Error(most, got)
		}
	}
	if got := Firsts(l, math.MinInt); len(got) != 0 {
		t.Error(got)
	}
	if got := Firsts([]int(nil), 3); len(got) != 0 {
		t.Error(got)
	}
}

// There is one gap less than there are things, and none without things.
func TestGaps(t *testing.T) {
	for _, c := range []struct{ things, gap, want int }{{-1, 5, 0}, {0, 5, 0}, {1, 5, 0}, {2, 5, 5}, {4, 5, 15}, {4, -5, -15}} {
		if got := Gaps(c.things, c.gap); got != c.want {
			t.Errorf("%+v: %d", c, got)
		}
	}
}

// What is divided is rounded down, below 0 too.
func TestOver(t *testing.T) {
	for _, c := range []struct{ n, by, want int }{{0, 5, 0}, {9, 5, 1}, {10, 5, 2}, {-1, 5, -1}, {-10, 5, -2}, {-11, 5, -3}, {math.MinInt, 1, math.MinInt}, {math.MaxInt, 2, math.MaxInt / 2}} {
		if got := Over(c.n, c.by); got != c.want {
			t.Errorf("%+v: %d", c, got)
		}
	}
}
