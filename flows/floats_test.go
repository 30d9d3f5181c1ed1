package flows

import (
	"math"
	"slices"
	"testing"

	"casement/api"
)

// one float that is to be added: on which side, how wide and high, from where on; and where it is to lie.
type one struct {
	right      bool
	w, h, from int
	x, y       int
}

const (
	left  = false
	right = true
)

func wantAdds(t *testing.T, f *Floats, l []one) {
	t.Helper()
	for n, c := range l {
		if x, y := f.Add(c.right, c.w, c.h, c.from); x != c.x || y != c.y {
			t.Errorf("%d: %+v: %d, %d", n, c, x, y)
		}
	}
}

func wantEdges(t *testing.T, f *Floats, y, h, l, r int) {
	t.Helper()
	if gotL, gotR := f.Edges(y, h); gotL != l || gotR != r {
		t.Errorf("from %d on, %d high: %d, %d, want %d, %d", y, h, gotL, gotR, l, r)
	}
}

// P91: a new room has no floats, and is from 0 to its width.
func TestFloatsNone(t *testing.T) {
	for _, c := range []struct{ width, high int }{
		{100, 100}, {0, 0}, {-1, 0}, {math.MinInt, 0}, {api.MaxLen, api.MaxLen}, {api.MaxLen + 1, api.MaxLen}, {math.MaxInt, api.MaxLen},
	} {
		f := New(c.width)
		wantEdges(t, f, 0, 0, 0, c.high)
		wantEdges(t, f, math.MinInt, math.MaxInt, 0, c.high)
		if len(f.All()) != 0 || f.Clear(true, true) != 0 {
			t.Error(c.width, f.All())
		}
	}
}

// P91: floats lie beside those of their side, as high as they can.
func TestFloatsBeside(t *testing.T) {
	wantAdds(t, New(100), []one{
		{left, 30, 20, 0, 0, 0},
		{left, 30, 10, 0, 30, 0},
		{right, 10, 40, 0, 90, 0},
		{right, 20, 5, 0, 70, 0},
		{left, 10, 5, 0, 60, 0}, // to the end
		{left, 1, 1, 0, 60, 5},  // the one of 5 on the right and the one of 5 on the left both end
		{right, 30, 1, 0, 60, 6},
		{right, 40, 1, 0, 50, 10}, // where the second one ends
	})
}

// P91: exactly as much room as is there is enough; one less is not: then it lies where the next one ends.
func TestFloatsFit(t *testing.T) {
	for _, c := range []struct{ w, x, y int }{{50, 30, 0}, {51, 30, 10}, {70, 30, 10}, {71, 0, 25}, {100, 0, 25}, {101, 0, 25}, {0, 30, 0}, {-7, 30, 0}} {
		f := New(100)
		wantAdds(t, f, []one{{left, 30, 25, 0, 0, 0}, {right, 20, 10, 0, 80, 0}, {left, c.w, 5, 0, c.x, c.y}})
	}
	for _, c := range []struct{ w, x, y int }{{50, 30, 0}, {51, 49, 10}, {70, 30, 10}, {71, 29, 25}, {100, 0, 25}, {101, -1, 25}, {0, 80, 0}, {-7, 80, 0}} {
		f := New(100)
		wantAdds(t, f, []one{{left, 30, 25, 0, 0, 0}, {right, 20, 10, 0, 80, 0}, {right, c.w, 5, 0, c.x, c.y}})
	}
}

// P91: what is wider than the room lies where no float is, also none without a width.
func TestFloatsTooWide(t *testing.T) {
	wantAdds(t, New(10), []one{
		{left, 11, 5, 0, 0, 0},
		{right, 12, 5, 0, -2, 5},
		{left, 0, 3, 0, 0, 10}, // both are in the way: what is left is less than nothing
		{left, 10, 3, 0, 0, 10},
		{left, 11, 3, 0, 0, 13},
	})
	wantAdds(t, New(0), []one{{left, 5, 5, 0, 0, 0}, {right, 5, 5, 0, -5, 5}, {right, 0, 5, 0, 0, 10}, {left, 0, 5, 0, 0, 10}, {left, 1, 5, 0, 0, 15}})
}

// P91: none lies above from, nor above one that came ahead of it, of either side.
func TestFloatsNotAbove(t *testing.T) {
	wantAdds(t, New(100), []one{
		{left, 10, 10, 7, 0, 7},
		{right, 10, 10, 0, 90, 7},
		{right, 10, 10, -50, 80, 7},
		{left, 10, 10, 16, 10, 16},
		{left, 10, 10, 0, 20, 16}, // the first one still reaches to 17
		{right, 10, 10, 17, 90, 17},
		{left, 10, 10, 0, 30, 17},  // behind those that began at 16
		{left, 10, 10, 26, 40, 26}, // the last one ahead still reaches to 27
		{left, 10, 10, 27, 50, 27}, // but there the one ahead is in the way
		{left, 10, 10, 37, 0, 37},
	})
}

// P91: from may be above the room's beginning.
func TestFloatsFromBelowZero(t *testing.T) {
	f := New(100)
	wantAdds(t, f, []one{{left, 60, 10, -30, 0, -30}, {right, 60, 5, -30, 40, -20}, {left, 50, 5, -90, 0, -15}})
	if got := f.Clear(true, false); got != -10 {
		t.Error(got)
	}
	if got := f.Clear(false, true); got != -15 {
		t.Error(got)
	}
}

// P91: an h of 0 is 1 when it is asked what reaches into what: of the one that is added, and of those ahead.
func TestFloatsFlat(t *testing.T) {
	wantAdds(t, New(10), []one{
		{left, 6, 0, 0, 0, 0},
		{left, 6, 0, 0, 0, 1},
		{right, 6, -3, 0, 4, 2},
		{right, 4, 5, 0, 0, 2}, // beside the flat one
		{left, 6, 1, 0, 0, 7},  // that one has all the rest
		{left, 11, 0, 0, 0, 8},
		{left, 11, 0, 0, 0, 9},
	})
	f := New(10)
	wantAdds(t, f, []one{{left, 6, 5, 0, 0, 0}, {left, 6, 0, 4, 0, 5}})
	wantEdges(t, f, 5, 1, 6, 10)
	wantEdges(t, f, 6, 1, 0, 10)
	if f.Clear(true, true) != 5 || f.All()[1].Rect != (api.Rect{X: 0, Y: 5, W: 6, H: 0}) {
		t.Error("a flat one ends where it begins:", f.Clear(true, true), f.All())
	}
}

// P91: widths and heights below 0 are 0, and all numbers are held.
func TestFloatsHeld(t *testing.T) {
	f := New(100)
	x, y := f.Add(right, math.MinInt, math.MinInt, math.MinInt)
	if x != 100 || y != -api.MaxLen || f.All()[0].Rect != (api.Rect{X: 100, Y: -api.MaxLen}) {
		t.Error(x, y, f.All())
	}
	x, y = f.Add(right, math.MaxInt, math.MaxInt, math.MaxInt)
	if want := (api.Rect{X: 100 - api.MaxLen, Y: api.MaxLen, W: api.MaxLen, H: api.MaxLen}); x != want.X || y != want.Y || f.All()[1].Rect != want {
		t.Error(x, y, f.All())
	}
	// Only what is handed over is held: floats lie as low as they must.
	if x, y = f.Add(left, 1, api.MaxLen+1, 0); x != 0 || y != 2*api.MaxLen {
		t.Error(x, y)
	}
	if got := f.Clear(true, false); got != 3*api.MaxLen {
		t.Error(got)
	}
	wantEdges(t, f, math.MaxInt, math.MaxInt, 0, 100-api.MaxLen)
	wantEdges(t, f, math.MaxInt, math.MinInt, 0, 100-api.MaxLen)
	wantEdges(t, f, math.MinInt, math.MinInt, 0, 100)
	wantEdges(t, f, math.MinInt, math.MaxInt, 0, 100) // up to 0 alone: the right one without a width is at the room's end
}

// P91: Edges: of what is there from y on, h high; an h below 1 counts as 1.
func TestFloatsEdges(t *testing.T) {
	f := New(100)
	wantAdds(t, f, []one{{left, 30, 10, 5, 0, 5}, {right, 20, 30, 0, 80, 5}, {left, 20, 5, 12, 30, 12}})
	for _, c := range []struct{ y, h, l, r int }{
		{0, 5, 0, 100},
		{0, 6, 30, 80},
		{4, 0, 0, 100},
		{4, 1, 0, 100},
		{4, 2, 30, 80},
		{5, 0, 30, 80},
		{5, -9, 30, 80},
		{5, 7, 30, 80},
		{5, 8, 50, 80},
		{11, 1, 30, 80},
		{12, 1, 50, 80},
		{15, 1, 50, 80},
		{16, 1, 50, 80},
		{17, 1, 0, 80},
		{34, 1, 0, 80},
		{35, 1, 0, 100},
		{-100, 1000, 50, 80},
	} {
		wantEdges(t, f, c.y, c.h, c.l, c.r)
	}
}

// P120, 3: Drop: the least height at which there is room beside floats, or none is, and where that room begins.
func TestFloatsDrop(t *testing.T) {
	f := New(100)
	wantAdds(t, f, []one{{left, 40, 20, 0, 0, 0}, {right, 30, 10, 0, 70, 0}, {left, 90, 0, 30, 0, 30}})
	for _, c := range []struct{ low, high, w, y, l, at int }{
		{0, 100, 30, 0, 40, 0}, {0, 100, 31, 0, 40, 10}, {0, 100, 60, 0, 40, 10}, {0, 100, 61, 0, 0, 20}, {0, 100, 100, 0, 0, 20}, {0, 100, 101, 0, 0, 20}, {0, 100, 999, 0, 0, 20},
		{0, 100, 31, 5, 40, 10}, {0, 100, 61, 10, 0, 20}, {0, 100, 61, 19, 0, 20}, {0, 100, 61, 25, 0, 25}, {0, 100, 11, 30, 0, 31}, {0, 100, 10, 30, 90, 30},
		{0, 100, 31, -1, 0, -1}, {0, 100, -5, 0, 40, 0},
		// In a room that floats leave less than nothing of, there is no room for nothing.
		{0, 20, 0, 0, 0, 20},
		{50, 60, 10, 0, 50, 0}, {50, 60, 11, 0, 50, 20},
		// A room that ends ahead of its beginning ends there.
		{50, 30, 0, 0, 50, 0}, {50, 30, 1, 0, 50, 20},
	} {
		wantDrop(t, f.In(c.low, c.high), c.w, c.y, c.l, c.at)
	}
	wantDrop(t, New(10), 50, 7, 0, 7)
}

func wantDrop(t *testing.T, f *Floats, w, y, l, at int) {
	t.Helper()
	if gotL, gotAt := f.Drop(w, y); gotL != l || gotAt != at {
		t.Errorf("in %d to %d, %d wide from %d on: %d, %d, want %d, %d", f.low, f.high, w, y, gotL, gotAt, l, at)
	}
}

// P120, 3: Drop takes a width and a height as they are, however far out they lie; its room is In's.
func TestFloatsDropFar(t *testing.T) {
	const most, far = api.MaxLen, 3 * api.MaxLen
	f := New(most)
	for _, c := range []struct{ low, high, w, y, l int }{
		{0, 100, 200, far, 0}, {0, 100, 200, -far, 0}, {0, 100, far, -far, 0},
		{far, far + 100, 50, 0, most}, {-far, -far + 100, 50, 0, -most}, {-far, far, far, far, -most},
		{0, 100, math.MaxInt, math.MinInt, 0}, {0, 100, math.MinInt, math.MaxInt, 0}, {math.MinInt, math.MaxInt, 0, 0, -most}, {math.MaxInt, math.MinInt, 0, 0, most},
	} {
		wantDrop(t, f.In(c.low, c.high), c.w, c.y, c.l, c.y)
	}
	wantAdds(t, f, []one{{left, 20, most, 640, 0, 640}})
	const foot = 640 + most
	for _, c := range []struct{ low, high, w, y, l, at int }{
		{0, 100, 80, foot - 1, 20, foot - 1}, {0, 100, 81, foot - 1, 0, foot}, {0, 100, 80, foot, 0, foot}, {0, 100, 100, 640, 0, foot}, {0, 100, 100, far, 0, far},
		{0, 100, 100, -far, 0, -far}, {0, most, most + 640, 640, 0, foot},
		// A room that reaches beyond MaxLen ends there.
		{0, far, most - 20, 640, 20, 640}, {0, far, most - 19, 640, 0, foot}, {0, far, far - 20, 640, 0, foot}, {0, most + 20, most, 640, 0, foot},
		{far, far + 100, 0, 640, most, 640}, {far, far + 100, 1, 640, most, foot}, {-far, -far + 100, 0, 640, -most, foot}, {-far, 100, 80, 640, 20, 640}, {-far, 100, 81, 640, -most, foot},
		{0, 100, math.MaxInt, 640, 0, foot}, {0, 100, math.MaxInt, math.MaxInt, 0, math.MaxInt}, {0, 100, math.MaxInt, math.MinInt, 0, math.MinInt}, {0, 100, math.MinInt, 640, 20, 640},
	} {
		wantDrop(t, f.In(c.low, c.high), c.w, c.y, c.l, c.at)
	}
}

// P91: Clear: where the lowest of a side ends, whichever came last.
func TestFloatsClear(t *testing.T) {
	f := New(100)
	for _, c := range []struct {
		right              bool
		h                  int
		lefts, rights, all int // where they end
	}{
		{left, 40, 40, 0, 40},
		{left, 10, 40, 0, 40},
		{right, 10, 40, 10, 40},
		{right, 70, 40, 70, 70},
		{right, 0, 40, 70, 70},
	} {
		f.Add(c.right, 5, c.h, 0)
		got := [4]int{f.Clear(true, false), f.Clear(false, true), f.Clear(true, true), f.Clear(false, false)}
		if want := [4]int{c.lefts, c.rights, c.all, 0}; got != want {
			t.Errorf("%+v: %v, want %v", f.All(), got, want)
		}
	}
}

// P91: Clear and All are the same in all rooms.
func TestFloatsInOthers(t *testing.T) {
	f := New(1000)
	g := f.In(100, 600)
	k := g.In(0, 2000) // wider than the one it is asked of
	wantAdds(t, g, []one{{left, 50, 20, 5, 100, 5}, {right, 50, 30, 5, 550, 5}})
	wantAdds(t, k, []one{{right, 50, 10, 0, 500, 5}})
	wantAdds(t, f, []one{{left, 10, 10, 0, 150, 5}})
	want := []Float{
		{left, api.Rect{X: 100, Y: 5, W: 50, H: 20}},
		{right, api.Rect{X: 550, Y: 5, W: 50, H: 30}},
		{right, api.Rect{X: 500, Y: 5, W: 50, H: 10}},
		{left, api.Rect{X: 150, Y: 5, W: 10, H: 10}},
	}
	for n, room := range []*Floats{f, g, k} {
		if !slices.Equal(room.All(), want) || room.Clear(true, false) != 25 || room.Clear(false, true) != 35 {
			t.Error(n, room.All(), room.Clear(true, false), room.Clear(false, true))
		}
	}
	wantEdges(t, f, 25, 1, 0, 550)
	wantEdges(t, g, 25, 1, 100, 550)
	wantEdges(t, k, 25, 1, 0, 550)
	wantEdges(t, f, 35, 1, 0, 1000)
	wantEdges(t, g, 35, 1, 100, 600)
	wantEdges(t, k, 35, 1, 0, 2000)
}

// P91: L is at least low, R at most high; floats of other rooms may leave less than nothing between.
func TestFloatsInEdges(t *testing.T) {
	f := New(100)
	wantAdds(t, f, []one{{left, 30, 10, 0, 0, 0}, {right, 30, 10, 0, 70, 0}})
	for _, c := range []struct{ low, high, l, r int }{
		{0, 100, 30, 70},
		{30, 70, 30, 70},
		{40, 60, 40, 60},
		{0, 20, 30, 20},
		{80, 100, 80, 70},
		{50, 50, 50, 50},
		{60, 40, 60, 60},
		{90, 10, 90, 70},
		{10, -90, 30, 10},
		{-50, 200, 30, 70},
		{math.MinInt, math.MaxInt, 30, 70},
		{math.MaxInt, math.MinInt, api.MaxLen, 70},
	} {
		wantEdges(t, f.In(c.low, c.high), 0, 1, c.l, c.r)
	}
	wantEdges(t, f.In(math.MinInt, math.MaxInt), 10, 1, -api.MaxLen, api.MaxLen)
	wantEdges(t, f.In(math.MaxInt, math.MinInt), 10, 1, api.MaxLen, api.MaxLen)
}

// P91: what is Added in a room whose floats leave nothing lies below them, also if it has no width.
func TestFloatsInAdds(t *testing.T) {
	f := New(100)
	wantAdds(t, f, []one{{left, 30, 10, 0, 0, 0}, {right, 30, 20, 0, 70, 0}})
	wantAdds(t, f.In(0, 20), []one{{left, 0, 5, 0, 0, 10}})
	wantAdds(t, f.In(80, 100), []one{{right, 0, 5, 0, 100, 20}})
	wantAdds(t, f.In(-20, 10), []one{{right, 10, 5, 0, 0, 20}, {right, 25, 5, 0, -15, 25}})
}

// P91: MaxItems floats in all rooms together; then 0, 0, and none.
func TestFloatsTooMany(t *testing.T) {
	f := New(10)
	g := f.In(5, 10)
	for n := range api.MaxItems {
		room := f
		if n%2 == 1 {
			room = g
		}
		if _, y := room.Add(left, 100, 1, 7); y != 7+n {
			t.Fatal(n, y)
		}
	}
	for _, room := range []*Floats{f, g, f.In(3, 4)} {
		if x, y := room.Add(right, 3, 3, 900); x != 0 || y != 0 || len(room.All()) != api.MaxItems {
			t.Error(x, y, len(room.All()))
		}
		if room.Clear(true, true) != 7+api.MaxItems || room.Clear(false, true) != 0 {
			t.Error(room.Clear(true, true), room.Clear(false, true))
		}
	}
}

// P4: what All answers is new memory.
func TestFloatsAllIsNew(t *testing.T) {
	f := New(100)
	f.Add(left, 30, 10, 0)
	l := f.All()
	l[0] = Float{Right: true}
	_ = append(l, Float{})
	f.Add(left, 30, 10, 0)
	if want := []Float{{left, api.Rect{W: 30, H: 10}}, {left, api.Rect{X: 30, W: 30, H: 10}}}; !slices.Equal(f.All(), want) || len(l) != 1 {
		t.Error(f.All(), l)
	}
	wantEdges(t, f, 0, 1, 60, 100)
}

// P2: rooms that New makes know nothing of each other.
func TestFloatsApart(t *testing.T) {
	f, g := New(100), New(100)
	f.Add(left, 30, 10, 0)
	if len(g.All()) != 0 {
		t.Error(g.All())
	}
	wantEdges(t, g, 0, 1, 0, 100)
}
