package flex

import (
	"math"
	"slices"
	"testing"

	"casement/api"
)

// most: as great as a factor may be.
const most = api.MaxNum * 1000

// item without bounds.
func item(base, grow, shrink int) Item {
	return Item{Base: base, Max: -1, Grow: grow, Shrink: shrink}
}

// grows: an item that grows by 1, within bounds.
func grows(base, least, greatest int) Item {
	return Item{Base: base, Min: least, Max: greatest, Grow: 1000}
}

// shrinks: one that shrinks by 1, within bounds.
func shrinks(base, least, greatest int) Item {
	return Item{Base: base, Min: least, Max: greatest, Shrink: 1000}
}

// beyond: pairs of numbers that are the same when they are held as lengths.
func beyond() [][2]int {
	return [][2]int{{api.MaxLen + 1, api.MaxLen}, {math.MaxInt, api.MaxLen}, {-api.MaxLen - 1, -api.MaxLen}, {math.MinInt, -api.MaxLen}}
}

// beyondFactors: the same of factors.
func beyondFactors() [][2]int {
	return [][2]int{{most + 1, most}, {math.MaxInt, most}, {-1, 0}, {math.MinInt, 0}}
}

// fields that are lengths, and fields that are factors.
func lengthsOf(i *Item) []*int { return []*int{&i.Base, &i.Min, &i.Max, &i.Around} }
func factorsOf(i *Item) []*int { return []*int{&i.Grow, &i.Shrink} }

// samples of rows: some grow, some shrink, some are held by their bounds.
func samples() [][]Item {
	return [][]Item{
		{item(10, 1000, 1000), item(20, 2000, 500), item(30, 0, 1000)},
		{grows(10, 5, 20), shrinks(50, 40, 60), item(5, 300, 200)},
		{{Base: 7, Min: 30, Max: 20, Around: 9, Grow: 400, Shrink: 400}, {Base: 70, Max: 50, Around: -9, Grow: 100, Shrink: 100}, {}},
	}
}

// wantBoth: two lists are to be handled alike, in rooms of all kinds.
func wantBoth(t *testing.T, a, b []Item) {
	t.Helper()
	for _, room := range []int{0, 40, 100, 1000, api.MaxLen, -api.MaxLen} {
		if got, want := Share(a, room, 3), Share(b, room, 3); !slices.Equal(got, want) {
			t.Errorf("%+v shares %d: %v, want %v", a, room, got, want)
		}
		if got, want := Rows(a, room, 3, true), Rows(b, room, 3, true); !slices.Equal(got, want) {
			t.Errorf("%+v in rows of %d: %v, want %v", a, room, got, want)
		}
	}
}

// Numbers that are too great in size are the nearer bound, each of them.
func TestItemsHeld(t *testing.T) {
	for _, l := range samples() {
		for at := range l {
			for field := range lengthsOf(&Item{}) {
				for _, pair := range beyond() {
					a, b := slices.Clone(l), slices.Clone(l)
					*lengthsOf(&a[at])[field], *lengthsOf(&b[at])[field] = pair[0], pair[1]
					wantBoth(t, a, b)
				}
			}
			for field := range factorsOf(&Item{}) {
				for _, pair := range beyondFactors() {
					a, b := slices.Clone(l), slices.Clone(l)
					*factorsOf(&a[at])[field], *factorsOf(&b[at])[field] = pair[0], pair[1]
					wantBoth(t, a, b)
				}
			}
		}
	}
}

// A Base and a Min below 0 are 0, a Max below 0 is none, whatever it is; and a Min counts ahead of a Max.
func TestItemsBelow(t *testing.T) {
	for _, n := range []int{-1, -40, math.MinInt} {
		wantBoth(t, []Item{item(n, 500, 500), item(40, 0, 1000)}, []Item{item(0, 500, 500), item(40, 0, 1000)})
		wantBoth(t, []Item{grows(10, n, 30), shrinks(90, n, -1)}, []Item{grows(10, 0, 30), shrinks(90, 0, -1)})
		wantBoth(t, []Item{grows(10, 5, n), shrinks(90, 5, n)}, []Item{grows(10, 5, api.MaxLen), shrinks(90, 5, api.MaxLen)})
	}
	wantBoth(t, []Item{grows(10, 50, 20), shrinks(90, 95, 20)}, []Item{grows(10, 50, 50), shrinks(90, 95, 95)})
}

// Rooms and gaps are held, too.
func TestRoomHeld(t *testing.T) {
	for _, l := range samples() {
		for _, pair := range beyond() {
			for _, other := range []int{0, 7, -7} {
				if got, want := Share(l, pair[0], other), Share(l, pair[1], other); !slices.Equal(got, want) {
					t.Errorf("%+v: %v, want %v", l, got, want)
				}
				if got, want := Share(l, other, pair[0]), Share(l, other, pair[1]); !slices.Equal(got, want) {
					t.Errorf("%+v: %v, want %v", l, got, want)
				}
				if got, want := Rows(l, pair[0], other, true), Rows(l, pair[1], other, true); !slices.Equal(got, want) {
					t.Errorf("%+v: %v, want %v", l, got, want)
				}
				if got, want := Rows(l, other, pair[0], true), Rows(l, other, pair[1], true); !slices.Equal(got, want) {
					t.Errorf("%+v: %v, want %v", l, got, want)
				}
			}
		}
	}
}

// A room that is held is what decides: a want of all that a length may be is not above it.
func TestRowsRoomHeld(t *testing.T) {
	l := []Item{item(api.MaxLen, 0, 0), item(1, 0, 0)}
	if got := Rows(l, math.MaxInt, 0, true); !slices.Equal(got, []int{1, 1}) {
		t.Error(got)
	}
	if got := Rows(l, math.MaxInt, -1, true); !slices.Equal(got, []int{2}) {
		t.Error(got)
	}
}

// P4: items are only read, and answers are new.
func TestOnlyReads(t *testing.T) {
	l := []Item{{math.MinInt, math.MinInt, math.MaxInt, math.MaxInt, math.MaxInt, math.MinInt}, item(-5, -5, -5)}
	old := slices.Clone(l)
	Rows(l, 10, 0, true)
	Share(l, 10, 0)
	if !slices.Equal(l, old) {
		t.Error(l)
	}
	widths := []int{math.MaxInt, -3}
	got := Spread(widths, 0, 0, 0)
	got[0], got[1] = 77, 78
	if !slices.Equal(widths, []int{math.MaxInt, -3}) {
		t.Error(widths)
	}
	if got := Spread(widths, 0, 0, 0); !slices.Equal(got, []int{0, api.MaxLen}) {
		t.Error(got)
	}
}
