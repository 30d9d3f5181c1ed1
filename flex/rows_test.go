package flex

import (
	"slices"
	"testing"

	"casement/api"
)

// about: a Base without bounds, with what stands around.
func about(base, around int) Item {
	return Item{Base: base, Max: -1, Around: around}
}

// P100: a row takes items as long as their wants and the gaps between are at most the room, but one at least.
func TestRows(t *testing.T) {
	words := []Item{about(30, 0), about(30, 0), about(40, 0), about(100, 0), about(101, 0), about(1, 0), about(0, 0)}
	for _, c := range []struct {
		l         []Item
		room, gap int
		want      []int
	}{
		{words, 100, 0, []int{3, 1, 1, 2}},
		{words, 99, 0, []int{2, 1, 1, 1, 2}},
		{words, 101, 0, []int{3, 1, 1, 2}},
		{words, 102, 0, []int{3, 1, 3}}, // 101, 1 and 0
		{words, 101, 1, []int{2, 1, 1, 1, 2}},
		{words, 102, 1, []int{3, 1, 1, 2}},
		{words, 103, 1, []int{3, 1, 2, 1}}, // a gap ahead of what is 0 wide, too
		{words, 301, 0, []int{5, 2}},
		{words, 302, 0, []int{7}},
		{words, 0, 0, []int{1, 1, 1, 1, 1, 1, 1}},
		{words, -5, 0, []int{1, 1, 1, 1, 1, 1, 1}},
		{words[:4], 97, -1, []int{2, 1, 1}},
		{words[:4], 98, -1, []int{3, 1}},
		{[]Item{about(0, 0), about(0, 0), about(0, 0)}, 0, 0, []int{3}},
		{[]Item{about(0, 0), about(0, 0), about(0, 0)}, 1, 1, []int{2, 1}},
		{[]Item{about(0, 0), about(0, 0)}, -1, 0, []int{1, 1}},
		{[]Item{about(0, 0), about(0, 0)}, -1, -1, []int{2}},
	} {
		if got := Rows(c.l, c.room, c.gap, true); !slices.Equal(got, c.want) {
			t.Errorf("room %d, gap %d: %v, want %v", c.room, c.gap, got, c.want)
		}
	}
}

// P100: a want is the Base within its bounds, and Around, which may be below 0.
func TestRowsWants(t *testing.T) {
	for _, c := range []struct {
		i    Item
		want int // how wide it is
	}{
		{about(40, 0), 40},
		{about(40, 7), 47},
		{about(40, -7), 33},
		{about(3, -7), -4},
		{about(-40, 7), 7},
		{Item{Base: 40, Min: 50, Max: -1, Around: 1}, 51},
		{Item{Base: 40, Min: -50, Max: -1}, 40},
		{Item{Base: 40, Max: 30, Around: 1}, 31},
		{Item{Base: 40, Around: 2}, 2}, // a Max of 0 is one
		{Item{Base: 40, Min: 35, Max: 30}, 35},
		{Item{Base: 40, Max: -9, Grow: 7000, Shrink: 7000}, 40},
	} {
		l := []Item{about(10, 0), c.i}
		if got := Rows(l, 10+c.want, 0, true); !slices.Equal(got, []int{2}) {
			t.Errorf("%+v: %v", c.i, got)
		}
		if got := Rows(l, 10+c.want-1, 0, true); !slices.Equal(got, []int{1, 1}) {
			t.Errorf("%+v: %v, one less", c.i, got)
		}
	}
}

// P100: a row that is too wide ends, also where what comes later would make it narrow again.
func TestRowsEnd(t *testing.T) {
	l := []Item{about(50, 0), about(60, 0), about(10, -80), about(50, 0)}
	if got := Rows(l, 100, 0, true); !slices.Equal(got, []int{1, 3}) {
		t.Error(got)
	}
}

// P100: without wrap all are in one row, whatever the room is; no items are in none.
func TestRowsOne(t *testing.T) {
	l := []Item{about(50, 0), about(60, 0), about(70, 0)}
	for _, room := range []int{-1, 0, 10, 1000} {
		if got := Rows(l, room, 5, false); !slices.Equal(got, []int{3}) {
			t.Error(room, got)
		}
	}
	for _, wrap := range []bool{false, true} {
		if len(Rows(nil, 10, 5, wrap)) != 0 || len(Rows([]Item{}, 10, 5, wrap)) != 0 {
			t.Error("no items, but rows")
		}
		if got := Rows(l[:1], -1, 5, wrap); !slices.Equal(got, []int{1}) {
			t.Error(got)
		}
	}
}

// Of more than MaxItems items only the first ones count.
func TestRowsMost(t *testing.T) {
	for _, n := range []int{api.MaxItems - 1, api.MaxItems, api.MaxItems + 1, 3 * api.MaxItems} {
		l := make([]Item, n)
		for at := range l {
			l[at] = about(50, 0)
		}
		counted := min(n, api.MaxItems)
		if got := Rows(l, 100, 0, false); !slices.Equal(got, []int{counted}) {
			t.Error(n, got)
		}
		got := Rows(l, 100, 0, true)
		sum := 0
		for _, count := range got {
			sum += count
		}
		if sum != counted || len(got) != (counted+1)/2 {
			t.Error(n, got)
		}
	}
}
