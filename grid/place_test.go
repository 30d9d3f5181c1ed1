package grid

import (
	"math"
	"slices"
	"testing"

	"casement/api"
)

type placeCase struct {
	l          []Item
	cols       int
	want       []Item
	wide, high int
}

func wantPlaces(t *testing.T, l []placeCase) {
	t.Helper()
	for _, c := range l {
		got, n, m := Place(c.l, c.cols)
		if !slices.Equal(got, c.want) || n != c.wide || m != c.high {
			t.Errorf("%v in %d: %v, %d, %d, want %v, %d, %d", c.l, c.cols, got, n, m, c.want, c.wide, c.high)
		}
	}
}

// P110: there are as many columns as are told, as items need whose Col is told, as the widest one spans, and one at least.
func TestPlaceColumns(t *testing.T) {
	one := item(1, 1, 1, 1)
	wantPlaces(t, []placeCase{
		{[]Item{{}}, 0, []Item{one}, 1, 1},
		{[]Item{{}}, 1, []Item{one}, 1, 1},
		{[]Item{{}}, 4, []Item{one}, 4, 1},
		{[]Item{{}}, api.MaxSpan, []Item{one}, api.MaxSpan, 1},
		{[]Item{{}}, api.MaxSpan + 1, []Item{one}, api.MaxSpan, 1},
		{[]Item{{}}, math.MaxInt, []Item{one}, api.MaxSpan, 1},
		{[]Item{{}}, -1, []Item{one}, 1, 1},
		{[]Item{{}}, math.MinInt, []Item{one}, 1, 1},
		{[]Item{wide(3)}, 2, []Item{item(1, 3, 1, 1)}, 3, 1},
		{[]Item{wide(3)}, 5, []Item{item(1, 3, 1, 1)}, 5, 1},
		{[]Item{item(4, 3, 0, 1)}, 2, []Item{item(4, 3, 1, 1)}, 6, 1},
		{[]Item{item(4, 3, 1, 1)}, 2, []Item{item(4, 3, 1, 1)}, 6, 1},
		{[]Item{item(4, 3, 1, 1)}, 6, []Item{item(4, 3, 1, 1)}, 6, 1},
		{[]Item{item(4, 3, 1, 1)}, 7, []Item{item(4, 3, 1, 1)}, 7, 1},
		// what is told behind them counts for those ahead, too
		{[]Item{{}, {}, {}, item(0, 3, 3, 1)}, 1, []Item{one, item(2, 1, 1, 1), item(3, 1, 1, 1), item(1, 3, 3, 1)}, 3, 3},
		{[]Item{{}, {}, item(2, 1, 0, 1)}, 1, []Item{one, item(2, 1, 1, 1), item(2, 1, 2, 1)}, 2, 2},
	})
}

// P110: numbers of an item that are too small or too great.
func TestPlaceHeld(t *testing.T) {
	far := api.MaxItems
	wantPlaces(t, []placeCase{
		{[]Item{{}}, 1, []Item{{1, 1, 1, 1}}, 1, 1},
		{[]Item{{-1, -1, -1, -1}}, 1, []Item{{1, 1, 1, 1}}, 1, 1},
		{[]Item{{math.MinInt, math.MinInt, math.MinInt, math.MinInt}}, 1, []Item{{1, 1, 1, 1}}, 1, 1},
		{[]Item{{1, 1, 1, 1}}, 1, []Item{{1, 1, 1, 1}}, 1, 1},
		{[]Item{{far, api.MaxSpan, far, api.MaxSpan}}, 1, []Item{{far, api.MaxSpan, far, api.MaxSpan}}, 219, 219},
		{[]Item{{far + 1, api.MaxSpan + 1, far + 1, api.MaxSpan + 1}}, 1, []Item{{far, api.MaxSpan, far, api.MaxSpan}}, 219, 219},
		{[]Item{{math.MaxInt, math.MaxInt, math.MaxInt, math.MaxInt}}, 1, []Item{{far, api.MaxSpan, far, api.MaxSpan}}, 219, 219},
		{[]Item{{far - 1, api.MaxSpan - 1, far - 1, api.MaxSpan - 1}}, 1, []Item{{far - 1, api.MaxSpan - 1, far - 1, api.MaxSpan - 1}}, 217, 217},
		{[]Item{{0, math.MaxInt, 0, math.MaxInt}}, 1, []Item{{1, api.MaxSpan, 1, api.MaxSpan}}, api.MaxSpan, api.MaxSpan},
		{[]Item{{0, 0, math.MaxInt, 0}}, 1, []Item{{1, 1, far, 1}}, 1, far},
		{[]Item{{math.MaxInt, 0, 0, 0}}, 1, []Item{{far, 1, 1, 1}}, far, 1},
	})
}

// P110, 1: items that are told stand where they are told, also on others, and ahead of all that are not.
func TestPlaceTold(t *testing.T) {
	wantPlaces(t, []placeCase{
		{[]Item{item(2, 1, 2, 1), item(2, 1, 2, 1)}, 1, []Item{item(2, 1, 2, 1), item(2, 1, 2, 1)}, 2, 2},
		{[]Item{item(1, 2, 1, 2), item(2, 2, 2, 2)}, 1, []Item{item(1, 2, 1, 2), item(2, 2, 2, 2)}, 3, 3},
		{[]Item{{}, item(0, 1, 1, 1), item(1, 1, 1, 1)}, 2, []Item{item(1, 1, 2, 1), item(2, 1, 1, 1), item(1, 1, 1, 1)}, 2, 2},
		// all cells of those that overlap are taken
		{[]Item{item(1, 3, 1, 1), item(2, 1, 1, 1), item(0, 1, 1, 1)}, 1, []Item{item(1, 3, 1, 1), item(2, 1, 1, 1), item(4, 1, 1, 1)}, 4, 1},
		{[]Item{item(2, 1, 1, 1), item(1, 3, 1, 1), item(0, 1, 1, 1)}, 1, []Item{item(2, 1, 1, 1), item(1, 3, 1, 1), item(4, 1, 1, 1)}, 4, 1},
	})
}

// P110, 2: items whose row is told stand at the least column that is clear, ahead of all whose row is not told; they may make the table wider.
func TestPlaceInRows(t *testing.T) {
	wantPlaces(t, []placeCase{
		{[]Item{item(0, 1, 2, 1), item(0, 1, 2, 1), item(0, 1, 1, 1)}, 3, []Item{item(1, 1, 2, 1), item(2, 1, 2, 1), item(1, 1, 1, 1)}, 3, 2},
		{[]Item{item(0, 1, 2, 1), item(0, 1, 2, 1)}, 1, []Item{item(1, 1, 2, 1), item(2, 1, 2, 1)}, 2, 2},
		// no cursor: a narrow one stands in a hole ahead of the last one
		{[]Item{item(2, 1, 1, 1), item(0, 2, 1, 1), item(0, 1, 1, 1)}, 2, []Item{item(2, 1, 1, 1), item(3, 2, 1, 1), item(1, 1, 1, 1)}, 4, 1},
		{[]Item{item(3, 1, 1, 1), item(0, 2, 1, 1), item(0, 2, 1, 1)}, 2, []Item{item(3, 1, 1, 1), item(1, 2, 1, 1), item(4, 2, 1, 1)}, 5, 1},
		// all of its cells are asked for, in all of its rows
		{[]Item{item(2, 1, 3, 1), item(0, 2, 1, 3)}, 2, []Item{item(2, 1, 3, 1), item(3, 2, 1, 3)}, 4, 3},
		{[]Item{item(2, 1, 3, 1), item(0, 2, 1, 2)}, 2, []Item{item(2, 1, 3, 1), item(1, 2, 1, 2)}, 2, 3},
		{[]Item{item(1, 1, 1, 3), item(0, 1, 3, 1), item(0, 1, 4, 1)}, 1, []Item{item(1, 1, 1, 3), item(2, 1, 3, 1), item(1, 1, 4, 1)}, 2, 4},
		// what they make wider is there for those that follow
		{[]Item{wide(2), {}, item(0, 2, 1, 1), item(0, 2, 1, 1)}, 2, []Item{item(1, 2, 2, 1), item(3, 1, 2, 1), item(1, 2, 1, 1), item(3, 2, 1, 1)}, 4, 2},
	})
}

// P110, 3: items of which nothing is told stand one behind the other; holes ahead of the cursor are not filled.
func TestPlaceInOrder(t *testing.T) {
	wantPlaces(t, []placeCase{
		{[]Item{{}, {}, {}}, 2, []Item{item(1, 1, 1, 1), item(2, 1, 1, 1), item(1, 1, 2, 1)}, 2, 2},
		{[]Item{{}, wide(2), {}}, 2, []Item{item(1, 1, 1, 1), item(1, 2, 2, 1), item(1, 1, 3, 1)}, 2, 3},
		{[]Item{{}, wide(2), {}}, 3, []Item{item(1, 1, 1, 1), item(2, 2, 1, 1), item(1, 1, 2, 1)}, 3, 2},
		{[]Item{wide(2), wide(2), {}}, 3, []Item{item(1, 2, 1, 1), item(1, 2, 2, 1), item(3, 1, 2, 1)}, 3, 2},
		// around what stands
		{[]Item{item(2, 1, 1, 2), {}, {}, {}}, 3, []Item{item(2, 1, 1, 2), item(1, 1, 1, 1), item(3, 1, 1, 1), item(1, 1, 2, 1)}, 3, 2},
		{[]Item{item(2, 1, 1, 2), wide(2), {}}, 3, []Item{item(2, 1, 1, 2), item(1, 2, 3, 1), item(3, 1, 3, 1)}, 3, 3},
		{[]Item{item(2, 1, 1, 1), wide(2), {}}, 4, []Item{item(2, 1, 1, 1), item(3, 2, 1, 1), item(1, 1, 2, 1)}, 4, 2},
		{[]Item{item(2, 1, 2, 1), item(0, 2, 0, 2)}, 3, []Item{item(2, 1, 2, 1), item(1, 2, 3, 2)}, 3, 4},
		// high ones
		{[]Item{item(0, 1, 0, 2), {}, {}, {}}, 2, []Item{item(1, 1, 1, 2), item(2, 1, 1, 1), item(2, 1, 2, 1), item(1, 1, 3, 1)}, 2, 3},
		{[]Item{item(0, 1, 0, 3), wide(2)}, 2, []Item{item(1, 1, 1, 3), item(1, 2, 4, 1)}, 2, 4},
	})
}

// P110, 3: items whose column is told go down from the cursor's row, or from the next one, if that column is behind them.
func TestPlaceInColumns(t *testing.T) {
	wantPlaces(t, []placeCase{
		{[]Item{item(2, 1, 0, 1), item(1, 1, 0, 1), {}}, 2, []Item{item(2, 1, 1, 1), item(1, 1, 2, 1), item(2, 1, 2, 1)}, 2, 2},
		{[]Item{item(2, 1, 0, 1), item(2, 1, 0, 1), {}}, 2, []Item{item(2, 1, 1, 1), item(2, 1, 2, 1), item(1, 1, 3, 1)}, 2, 3},
		{[]Item{item(2, 1, 0, 1), item(3, 1, 0, 1), {}}, 3, []Item{item(2, 1, 1, 1), item(3, 1, 1, 1), item(1, 1, 2, 1)}, 3, 2},
		// the cursor is where the item begins, not behind it
		{[]Item{wide(2), item(2, 1, 0, 1)}, 3, []Item{item(1, 2, 1, 1), item(2, 1, 2, 1)}, 3, 2},
		{[]Item{wide(2), item(1, 1, 0, 1)}, 3, []Item{item(1, 2, 1, 1), item(1, 1, 2, 1)}, 3, 2},
		{[]Item{{}, wide(2), item(1, 1, 0, 1)}, 3, []Item{item(1, 1, 1, 1), item(2, 2, 1, 1), item(1, 1, 2, 1)}, 3, 2},
		// all of its cells are asked for
		{[]Item{item(1, 1, 3, 1), item(1, 1, 0, 3)}, 1, []Item{item(1, 1, 3, 1), item(1, 1, 4, 3)}, 1, 6},
		{[]Item{item(1, 1, 3, 1), item(1, 1, 0, 2)}, 1, []Item{item(1, 1, 3, 1), item(1, 1, 1, 2)}, 1, 3},
		{[]Item{item(2, 1, 1, 1), item(1, 2, 0, 1)}, 2, []Item{item(2, 1, 1, 1), item(1, 2, 2, 1)}, 2, 2},
		// items whose row is told say nothing of the cursor
		{[]Item{item(3, 1, 5, 1), item(0, 1, 7, 1), {}}, 3, []Item{item(3, 1, 5, 1), item(1, 1, 7, 1), item(1, 1, 1, 1)}, 3, 7},
	})
}

// P110: rows are as many as items reach to, the last one or another.
func TestPlaceRows(t *testing.T) {
	wantPlaces(t, []placeCase{
		{[]Item{item(1, 1, 1, 9), {}, item(1, 1, 3, 2)}, 2, []Item{item(1, 1, 1, 9), item(2, 1, 1, 1), item(1, 1, 3, 2)}, 2, 9},
		{[]Item{item(0, 1, 4, 1)}, 2, []Item{item(1, 1, 4, 1)}, 2, 4},
	})
}

// Of more than MaxItems items only the first ones count: the others stand nowhere, and nothing is as wide as they.
func TestPlaceMost(t *testing.T) {
	for _, n := range []int{api.MaxItems - 1, api.MaxItems, api.MaxItems + 1, 3 * api.MaxItems} {
		l := make([]Item, n)
		for at := api.MaxItems; at < n; at++ {
			l[at] = item(1, 5, 1, 5)
		}
		counted := min(n, api.MaxItems)
		got, cols, rows := Place(l, 1)
		if len(got) != counted || cols != 1 || rows != counted || got[counted-1] != item(1, 1, counted, 1) {
			t.Error(n, got, cols, rows)
		}
	}
}

// What takes longest: all of a row is taken low down, so that nothing high has room above it; as wide as a table can be.
func TestPlaceGreat(t *testing.T) {
	l := make([]Item, api.MaxItems)
	for at := range l {
		l[at] = item(0, api.MaxSpan, api.MaxSpan, api.MaxSpan)
	}
	last := api.MaxItems - 1
	l[0] = item(api.MaxItems, api.MaxSpan, api.MaxSpan, api.MaxSpan)
	l[last] = item(0, api.MaxSpan, 0, api.MaxSpan)
	got, cols, rows := Place(l, 1)
	// nine of them stand ahead of column 200, the others behind column 219
	if cols != 219+(api.MaxItems-2-9)*api.MaxSpan || rows != 3*api.MaxSpan-1 || got[last] != item(1, api.MaxSpan, 2*api.MaxSpan, api.MaxSpan) {
		t.Error(got, cols, rows)
	}
}
