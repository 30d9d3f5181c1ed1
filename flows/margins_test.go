package flows

import (
	"math"
	"slices"
	"testing"

	"casement/api"
)

// P90: one number is on one side.
func TestMarginOf(t *testing.T) {
	for _, c := range []struct {
		n    int
		want Margin
	}{
		{0, Margin{}},
		{1, Margin{Up: 1}},
		{-1, Margin{Down: -1}},
		{api.MaxLen, Margin{Up: api.MaxLen}},
		{api.MaxLen + 1, Margin{Up: api.MaxLen}},
		{math.MaxInt, Margin{Up: api.MaxLen}},
		{-api.MaxLen, Margin{Down: -api.MaxLen}},
		{-api.MaxLen - 1, Margin{Down: -api.MaxLen}},
		{math.MinInt, Margin{Down: -api.MaxLen}},
	} {
		got := Of(c.n)
		if got != c.want {
			t.Errorf("%d: %+v, want %+v", c.n, got, c.want)
		}
		if got.Size() != c.want.Up+c.want.Down {
			t.Errorf("%d: size %d", c.n, got.Size())
		}
	}
}

func joined(l []int) Margin {
	var m Margin
	for _, n := range l {
		m = m.Join(Of(n))
	}
	return m
}

// P90: the greatest of those above and the least of those below, together; the order does not matter.
func TestMarginJoin(t *testing.T) {
	for _, c := range []struct {
		l    []int
		want Margin
		size int
	}{
		{nil, Margin{}, 0},
		{[]int{0}, Margin{}, 0},
		{[]int{20, -5}, Margin{20, -5}, 15},
		{[]int{20, 8, -5}, Margin{20, -5}, 15},
		{[]int{20, 8, -5, -3}, Margin{20, -5}, 15},
		{[]int{8, 20}, Margin{20, 0}, 20},
		{[]int{-3, -9, -4}, Margin{0, -9}, -9},
		{[]int{0, -9}, Margin{0, -9}, -9},
		{[]int{0, 9}, Margin{9, 0}, 9},
		{[]int{5, -20, 5}, Margin{5, -20}, -15},
		{[]int{7, 7, -7}, Margin{7, -7}, 0},
		{[]int{math.MaxInt, math.MinInt}, Margin{api.MaxLen, -api.MaxLen}, 0},
		{[]int{math.MaxInt, -1}, Margin{api.MaxLen, -1}, api.MaxLen - 1},
	} {
		back := slices.Clone(c.l)
		slices.Reverse(back)
		for _, l := range [][]int{c.l, back} {
			if got := joined(l); got != c.want || got.Size() != c.size {
				t.Errorf("%v: %+v of %d, want %+v of %d", l, got, got.Size(), c.want, c.size)
			}
		}
	}
}

// P90: Join is of all that both have, not of their sizes.
func TestMarginJoinGroups(t *testing.T) {
	a, b := joined([]int{20, -15}), joined([]int{10, -1})
	if got := a.Join(b); got != (Margin{20, -15}) || b.Join(a) != got {
		t.Error(got)
	}
	if a != (Margin{20, -15}) || b != (Margin{10, -1}) {
		t.Error("changed:", a, b)
	}
}

// Numbers that are handed over as a margin are held, too.
func TestMarginHeld(t *testing.T) {
	far := Margin{math.MaxInt, math.MinInt}
	if got := far.Size(); got != 0 {
		t.Error(got)
	}
	if got := (Margin{Up: api.MaxLen + 9, Down: -9}).Size(); got != api.MaxLen-9 {
		t.Error(got)
	}
	want := Margin{api.MaxLen, -api.MaxLen}
	if got := far.Join(Margin{}); got != want {
		t.Error(got)
	}
	if got := (Margin{}).Join(far); got != want {
		t.Error(got)
	}
}
