package grid

import (
	"math"
	"slices"
	"testing"

	"casement/api"
)

// most: as great as a factor may be.
const most = api.MaxNum * 1000

// item that begins somewhere and spans something.
func item(col, colSpan, row, rowSpan int) Item {
	return Item{col, colSpan, row, rowSpan}
}

// wide: an item of which only how many columns it spans is told.
func wide(span int) Item {
	return Item{ColSpan: span, RowSpan: 1}
}

// P4: what is handed over is only read, and answers are new.
func TestOnlyReads(t *testing.T) {
	items := []Item{{math.MinInt, math.MaxInt, math.MaxInt, math.MinInt}, {}, {3, 2, 0, 0}}
	old := slices.Clone(items)
	got, _, _ := Place(items, 2)
	got[1] = Item{7, 7, 7, 7}
	if !slices.Equal(items, old) {
		t.Error(items)
	}
	if again, _, _ := Place(items, 2); again[1] != (Item{1, 1, 1, 1}) {
		t.Error(again)
	}
	tracks := []Track{{1, math.MaxInt}, {3, -5}, {9, 9}, {}}
	needs := []Need{{3, 2, math.MaxInt}, {3, 1, 5}, {0, 0, 0}}
	oldTracks, oldNeeds := slices.Clone(tracks), slices.Clone(needs)
	sizes := Tracks(tracks, needs, 100, 0)
	sizes[2] = 77
	if !slices.Equal(tracks, oldTracks) || !slices.Equal(needs, oldNeeds) {
		t.Error(tracks, needs)
	}
	if again := Tracks(tracks, needs, 100, 0); again[2] == 77 {
		t.Error(again)
	}
}

// P3: a nil list and an empty one are one thing.
func TestNothing(t *testing.T) {
	for _, l := range [][]Item{nil, {}} {
		for cols, want := range []int{1, 1, 2, 3} {
			if got, n, m := Place(l, cols); len(got) != 0 || n != want || m != 0 {
				t.Error(cols, got, n, m)
			}
		}
	}
	for _, l := range [][]Track{nil, {}} {
		for _, needs := range [][]Need{nil, {}} {
			for _, room := range []int{-1, 0, 100} {
				if got := Tracks(l, needs, room, 5); len(got) != 0 {
					t.Error(room, got)
				}
			}
		}
	}
}
