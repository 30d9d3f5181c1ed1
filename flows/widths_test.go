package flows

import (
	"fmt"
	"math"
	"testing"

	"casement/api"
)

type widthCase struct {
	w    Width
	want [3]int // left, inner, right
}

func wantWidths(t *testing.T, l []widthCase) {
	t.Helper()
	for _, c := range l {
		left, inner, right := c.w.Solve()
		if got := [3]int{left, inner, right}; got != c.want {
			t.Errorf("%+v: %v, want %v", c.w, got, c.want)
		}
	}
}

// P92: with inner auto it is what is left, and margins that are auto are 0.
func TestWidthInnerAuto(t *testing.T) {
	wantWidths(t, []widthCase{
		{Width{Room: 100, Max: -1, AutoInner: true}, [3]int{0, 100, 0}},
		{Width{Room: 100, Left: 10, Right: 5, Around: 20, Max: -1, AutoInner: true}, [3]int{10, 65, 5}},
		{Width{Room: 100, Left: 10, Right: 5, Around: 20, Inner: 7, Max: -1, AutoInner: true}, [3]int{10, 65, 5}},
		{Width{Room: 100, Left: 10, Right: 5, Around: 20, Max: -1, AutoLeft: true, AutoInner: true}, [3]int{0, 75, 5}},
		{Width{Room: 100, Left: 10, Right: 5, Around: 20, Max: -1, AutoInner: true, AutoRight: true}, [3]int{10, 70, 0}},
		{Width{Room: 100, Left: 10, Right: 5, Around: 20, Max: -1, AutoLeft: true, AutoInner: true, AutoRight: true}, [3]int{0, 80, 0}},
		{Width{Room: 100, Left: -10, Right: -5, Max: -1, AutoInner: true}, [3]int{-10, 115, -5}},
		{Width{Room: 100, Left: 60, Right: 40, Max: -1, AutoInner: true}, [3]int{60, 0, 40}},
	})
}

// P92: an inner that is auto is not below 0; then the right margin stays, too.
func TestWidthInnerAutoWithoutRoom(t *testing.T) {
	wantWidths(t, []widthCase{
		{Width{Room: 100, Left: 60, Right: 50, Max: -1, AutoInner: true}, [3]int{60, 0, 50}},
		{Width{Room: 10, Around: 20, Max: -1, AutoInner: true}, [3]int{0, 0, 0}},
		{Width{Room: 10, Around: 20, Max: -1, AutoLeft: true, AutoInner: true, AutoRight: true}, [3]int{0, 0, 0}},
		{Width{Room: -10, Left: 3, Right: 4, Max: -1, AutoInner: true}, [3]int{3, 0, 4}},
	})
}

// P92: with inner told: both margins auto share, one auto takes, and with none the right one takes what is left.
func TestWidthInnerTold(t *testing.T) {
	wantWidths(t, []widthCase{
		{Width{Room: 100, Inner: 50, Around: 10, Max: -1, AutoLeft: true, AutoRight: true}, [3]int{20, 50, 20}},
		{Width{Room: 100, Inner: 51, Around: 10, Max: -1, AutoLeft: true, AutoRight: true}, [3]int{19, 51, 20}},
		{Width{Room: 100, Left: 7, Right: 9, Inner: 50, Max: -1, AutoLeft: true, AutoRight: true}, [3]int{25, 50, 25}},
		{Width{Room: 100, Inner: 100, Max: -1, AutoLeft: true, AutoRight: true}, [3]int{0, 100, 0}},
		{Width{Room: 100, Inner: 101, Max: -1, AutoLeft: true, AutoRight: true}, [3]int{0, 101, -1}},
		{Width{Room: 100, Inner: 100, Around: 33, Max: -1, AutoLeft: true, AutoRight: true}, [3]int{0, 100, -33}},
		{Width{Room: 100, Left: 7, Right: 9, Inner: 50, Around: 10, Max: -1, AutoLeft: true}, [3]int{31, 50, 9}},
		{Width{Room: 100, Left: 7, Right: 9, Inner: 150, Around: 10, Max: -1, AutoLeft: true}, [3]int{-69, 150, 9}},
		{Width{Room: 100, Left: 7, Right: 9, Inner: 50, Around: 10, Max: -1, AutoRight: true}, [3]int{7, 50, 33}},
		{Width{Room: 100, Left: 7, Right: 9, Inner: 150, Around: 10, Max: -1, AutoRight: true}, [3]int{7, 150, -67}},
		{Width{Room: 100, Left: 7, Right: 9, Inner: 50, Around: 10, Max: -1}, [3]int{7, 50, 33}},
		{Width{Room: 100, Left: 70, Right: 9, Inner: 50, Around: 10, Max: -1}, [3]int{70, 50, -30}},
		{Width{Room: 100, Left: -70, Right: 9, Inner: 50, Around: 10, Max: -1}, [3]int{-70, 50, 110}},
		{Width{Room: -3, Inner: 4, Max: -1}, [3]int{0, 4, -7}},
	})
}

// P92: above Max it is done anew with that, told; below Min anew with that, and Min counts.
func TestWidthBounds(t *testing.T) {
	wantWidths(t, []widthCase{
		{Width{Room: 100, Max: 100, AutoInner: true, AutoLeft: true, AutoRight: true}, [3]int{0, 100, 0}},
		{Width{Room: 100, Max: 99, AutoInner: true, AutoLeft: true, AutoRight: true}, [3]int{0, 99, 1}},
		{Width{Room: 100, Max: 30, AutoInner: true, AutoLeft: true, AutoRight: true}, [3]int{35, 30, 35}},
		{Width{Room: 100, Left: 5, Right: 6, Max: 30, AutoInner: true}, [3]int{5, 30, 65}},
		{Width{Room: 100, Left: 5, Right: 6, Max: 30, AutoInner: true, AutoLeft: true}, [3]int{64, 30, 6}},
		{Width{Room: 100, Max: 0, AutoInner: true, AutoLeft: true, AutoRight: true}, [3]int{50, 0, 50}},
		{Width{Room: 100, Inner: 50}, [3]int{0, 0, 100}},
		{Width{Room: 100, Inner: 50, Max: 40}, [3]int{0, 40, 60}},
		{Width{Room: 100, Inner: 50, Max: -7}, [3]int{0, 50, 50}},
		{Width{Room: 100, Inner: 50, Min: 60, Max: -1}, [3]int{0, 60, 40}},
		{Width{Room: 100, Inner: 50, Min: 50, Max: 50}, [3]int{0, 50, 50}},
		{Width{Room: 100, Inner: 50, Min: 60, Max: 40}, [3]int{0, 60, 40}},
		{Width{Room: 100, Inner: 50, Min: 45, Max: 40}, [3]int{0, 45, 55}},
		{Width{Room: 100, Inner: -50, Max: -1}, [3]int{0, 0, 100}},
		{Width{Room: 100, Inner: -50, Min: -60, Max: -1}, [3]int{0, 0, 100}},
		{Width{Room: 100, Min: 160, Max: -1, AutoInner: true, AutoLeft: true, AutoRight: true}, [3]int{0, 160, -60}},
		{Width{Room: 100, Left: 5, Right: 6, Min: 160, Max: -1, AutoInner: true}, [3]int{5, 160, -65}},
		{Width{Room: 100, Left: 60, Right: 50, Min: 1, Max: -1, AutoInner: true}, [3]int{60, 1, 39}},
		{Width{Room: 100, Left: 60, Right: 50, Min: -5, Max: -1, AutoInner: true}, [3]int{60, 0, 50}},
		{Width{Room: 100, Left: 60, Right: 50, Min: -5, AutoInner: true}, [3]int{60, 0, 50}},
		{Width{Room: 100, Min: 100, Max: 10, AutoInner: true, AutoLeft: true, AutoRight: true}, [3]int{0, 100, 0}},
	})
}

type fixedCase struct {
	f    Fixed
	want [4]int // from, left, inner, right
}

func wantFixed(t *testing.T, l []fixedCase) {
	t.Helper()
	for _, c := range l {
		from, left, inner, right := c.f.Solve()
		if got := [4]int{from, left, inner, right}; got != c.want {
			t.Errorf("%+v: %v, want %v", c.f, got, c.want)
		}
	}
}

// P93: inner that is auto: what is left between both ends that are told; else Fit.
func TestFixedInnerAuto(t *testing.T) {
	wantFixed(t, []fixedCase{
		{Fixed{Room: 100, From: 10, To: 20, Left: 3, Right: 4, Around: 5, Fit: 30, Max: -1, AutoInner: true}, [4]int{10, 3, 58, 4}},
		{Fixed{Room: 100, From: 10, To: 20, Left: 3, Right: 4, Around: 5, Fit: 30, Max: -1, AutoInner: true, AutoLeft: true, AutoRight: true}, [4]int{10, 0, 65, 0}},
		{Fixed{Room: 100, From: 10, To: 20, Left: 3, Right: 4, Around: 5, Fit: 30, Max: -1, AutoInner: true, AutoRight: true}, [4]int{10, 3, 62, 0}},
		{Fixed{Room: 100, From: 60, To: 50, Left: 3, Right: 4, Fit: 30, Max: -1, AutoInner: true}, [4]int{60, 3, 0, 4}},
		{Fixed{Room: 100, From: -10, To: -20, Max: -1, AutoInner: true}, [4]int{-10, 0, 130, 0}},
		{Fixed{Room: 100, From: 10, To: 20, Fit: 30, Max: -1, AutoInner: true, AutoTo: true}, [4]int{10, 0, 30, 0}},
		{Fixed{Room: 100, From: 10, To: 20, Fit: 30, Max: -1, AutoInner: true, AutoFrom: true}, [4]int{50, 0, 30, 0}},
		{Fixed{Room: 100, From: 10, To: 20, Fit: 30, Max: -1, At: 7, AutoInner: true, AutoFrom: true, AutoTo: true}, [4]int{7, 0, 30, 0}},
		{Fixed{Room: 100, Fit: 300, Max: -1, At: -7, AutoInner: true, AutoFrom: true, AutoTo: true}, [4]int{-7, 0, 300, 0}},
		{Fixed{Room: 100, Fit: -30, Max: -1, AutoInner: true, AutoTo: true}, [4]int{0, 0, 0, 0}},
		{Fixed{Room: 100, To: 10, Fit: -30, Max: -1, AutoInner: true, AutoFrom: true}, [4]int{90, 0, 0, 0}},
	})
}

// P93: where it begins: From; else by To; else At.
func TestFixedFrom(t *testing.T) {
	wantFixed(t, []fixedCase{
		{Fixed{Room: 100, From: 10, To: 20, Left: 3, Right: 4, Around: 5, Inner: 40, Max: -1, At: 7}, [4]int{10, 3, 40, 4}},
		{Fixed{Room: 100, From: 10, To: 20, Left: 3, Right: 4, Around: 5, Inner: 40, Max: -1, At: 7, AutoTo: true}, [4]int{10, 3, 40, 4}},
		{Fixed{Room: 100, From: 10, To: 20, Left: 3, Right: 4, Around: 5, Inner: 40, Max: -1, At: 7, AutoFrom: true}, [4]int{28, 3, 40, 4}},
		{Fixed{Room: 100, From: 10, To: 20, Left: 3, Right: 4, Around: 5, Inner: 140, Max: -1, At: 7, AutoFrom: true}, [4]int{-72, 3, 140, 4}},
		{Fixed{Room: 100, From: 10, To: -20, Inner: 40, Max: -1, At: 7, AutoFrom: true}, [4]int{80, 0, 40, 0}},
		{Fixed{Room: 100, From: 10, To: 20, Left: 3, Right: 4, Around: 5, Inner: 40, Max: -1, At: 7, AutoFrom: true, AutoTo: true}, [4]int{7, 3, 40, 4}},
		{Fixed{Room: 100, To: 20, Left: 3, Right: 4, Inner: 40, Max: -1, AutoFrom: true, AutoLeft: true, AutoRight: true}, [4]int{40, 0, 40, 0}},
		{Fixed{Room: 100, To: 20, Fit: 70, Max: 40, AutoInner: true, AutoFrom: true}, [4]int{40, 0, 40, 0}},
		{Fixed{Room: 100, To: 20, Fit: 70, Min: 90, Max: 40, AutoInner: true, AutoFrom: true}, [4]int{-10, 0, 90, 0}},
	})
}

// P93: margins that are auto share what is left, if all else is told; else they are 0.
func TestFixedMargins(t *testing.T) {
	wantFixed(t, []fixedCase{
		{Fixed{Room: 100, From: 10, To: 20, Left: 3, Right: 4, Around: 5, Inner: 40, Max: -1, AutoLeft: true, AutoRight: true}, [4]int{10, 12, 40, 13}},
		{Fixed{Room: 100, From: 10, To: 20, Inner: 70, Max: -1, AutoLeft: true, AutoRight: true}, [4]int{10, 0, 70, 0}},
		{Fixed{Room: 100, From: 10, To: 20, Inner: 71, Max: -1, AutoLeft: true, AutoRight: true}, [4]int{10, 0, 71, -1}},
		{Fixed{Room: 100, From: 10, To: 20, Around: 5, Inner: 90, Max: -1, AutoLeft: true, AutoRight: true}, [4]int{10, 0, 90, -25}},
		{Fixed{Room: 100, From: 10, To: 20, Left: 3, Right: 4, Around: 5, Inner: 40, Max: -1, AutoLeft: true}, [4]int{10, 21, 40, 4}},
		{Fixed{Room: 100, From: 10, To: 20, Left: 3, Right: 4, Around: 5, Inner: 40, Max: -1, AutoRight: true}, [4]int{10, 3, 40, 22}},
		{Fixed{Room: 100, From: 10, To: 20, Left: 3, Right: 4, Around: 5, Inner: 90, Max: -1, AutoLeft: true}, [4]int{10, -29, 90, 4}},
		{Fixed{Room: 100, From: 10, To: 20, Left: 3, Right: 4, Around: 5, Inner: 90, Max: -1, AutoRight: true}, [4]int{10, 3, 90, -28}},
		{Fixed{Room: 100, From: 10, To: 20, Left: 3, Right: 4, Inner: 40, Max: -1, AutoTo: true, AutoLeft: true, AutoRight: true}, [4]int{10, 0, 40, 0}},
		{Fixed{Room: 100, Left: 3, Right: 4, Inner: 40, Max: -1, At: 8, AutoFrom: true, AutoTo: true, AutoLeft: true}, [4]int{8, 0, 40, 4}},
	})
}

// P93: done anew with Max and with Min, inner is told.
func TestFixedBounds(t *testing.T) {
	wantFixed(t, []fixedCase{
		{Fixed{Room: 100, From: 10, To: 20, Max: 50, AutoInner: true, AutoLeft: true, AutoRight: true}, [4]int{10, 10, 50, 10}},
		{Fixed{Room: 100, From: 10, To: 20, Max: 70, AutoInner: true, AutoLeft: true, AutoRight: true}, [4]int{10, 0, 70, 0}},
		{Fixed{Room: 100, From: 10, To: 20, Left: 9, Max: 50, AutoInner: true, AutoLeft: true}, [4]int{10, 20, 50, 0}},
		{Fixed{Room: 100, From: 10, To: 20, Min: 90, Max: 50, AutoInner: true, AutoLeft: true, AutoRight: true}, [4]int{10, 0, 90, -20}},
		{Fixed{Room: 100, From: 60, To: 50, Min: 5, Max: -1, AutoInner: true, AutoLeft: true}, [4]int{60, -15, 5, 0}},
		{Fixed{Room: 100, From: 60, To: 50, Min: -5, Max: -1, AutoInner: true, AutoLeft: true}, [4]int{60, 0, 0, 0}},
		{Fixed{Room: 100, From: 10, To: 20, Max: 50, AutoInner: true}, [4]int{10, 0, 50, 0}},
		{Fixed{Room: 100, From: 10, To: 20, Inner: 60}, [4]int{10, 0, 0, 0}},
		{Fixed{Room: 100, From: 10, To: 20, Inner: 60, AutoRight: true}, [4]int{10, 0, 0, 70}},
		{Fixed{Room: 100, From: 10, To: 20, Inner: -60, Max: -1, AutoRight: true}, [4]int{10, 0, 0, 70}},
		{Fixed{Room: 100, From: 10, Fit: 60, Max: 50, AutoInner: true, AutoTo: true, AutoLeft: true}, [4]int{10, 0, 50, 0}},
	})
}

func widthNumbers(w *Width) []*int {
	return []*int{&w.Room, &w.Left, &w.Inner, &w.Right, &w.Around, &w.Min, &w.Max}
}

func fixedNumbers(f *Fixed) []*int {
	return []*int{&f.Room, &f.From, &f.To, &f.Left, &f.Inner, &f.Right, &f.Around, &f.Fit, &f.Min, &f.Max, &f.At}
}

// beyond: pairs of numbers that are the same when they are held.
func beyond() [][2]int {
	return [][2]int{{api.MaxLen + 1, api.MaxLen}, {math.MaxInt, api.MaxLen}, {-api.MaxLen - 1, -api.MaxLen}, {math.MinInt, -api.MaxLen}}
}

// Each number of more than MaxLen in size is MaxLen in size, whatever is auto.
func TestSolveHeld(t *testing.T) {
	for _, pair := range beyond() {
		for at := range widthNumbers(&Width{}) {
			for autos := range 8 {
				a := Width{1000, 1, 2, 3, 4, 5, -1, autos&1 > 0, autos&2 > 0, autos&4 > 0}
				b := a
				*widthNumbers(&a)[at], *widthNumbers(&b)[at] = pair[0], pair[1]
				if got, want := fmt.Sprint(a.Solve()), fmt.Sprint(b.Solve()); got != want {
					t.Errorf("%+v: %s, want %s", a, got, want)
				}
			}
		}
		for at := range fixedNumbers(&Fixed{}) {
			for autos := range 32 {
				a := Fixed{1000, 1, 2, 3, 4, 5, 6, 7, 8, -1, 9, autos&1 > 0, autos&2 > 0, autos&4 > 0, autos&8 > 0, autos&16 > 0}
				b := a
				*fixedNumbers(&a)[at], *fixedNumbers(&b)[at] = pair[0], pair[1]
				if got, want := fmt.Sprint(a.Solve()), fmt.Sprint(b.Solve()); got != want {
					t.Errorf("%+v: %s, want %s", a, got, want)
				}
			}
		}
	}
}

// A Max that is held counts where more than MaxLen is left.
func TestSolveMaxHeld(t *testing.T) {
	for _, most := range []int{api.MaxLen, api.MaxLen + 1, math.MaxInt} {
		wantWidths(t, []widthCase{{Width{Room: api.MaxLen, Left: -api.MaxLen, Right: -api.MaxLen, Max: most, AutoInner: true}, [3]int{-api.MaxLen, api.MaxLen, api.MaxLen}}})
		wantFixed(t, []fixedCase{{Fixed{Room: api.MaxLen, From: -api.MaxLen, To: -api.MaxLen, Max: most, AutoInner: true, AutoRight: true}, [4]int{-api.MaxLen, 0, api.MaxLen, 2 * api.MaxLen}}})
	}
}

// What is answered may be of more than MaxLen in size: only what is handed over is held.
func TestSolveAnswersNotHeld(t *testing.T) {
	wantWidths(t, []widthCase{
		{Width{Room: math.MaxInt, Left: math.MinInt, Right: math.MinInt, Max: -1, AutoInner: true}, [3]int{-api.MaxLen, 3 * api.MaxLen, -api.MaxLen}},
		{Width{Room: math.MinInt, Left: math.MaxInt, Inner: math.MaxInt, Around: math.MaxInt, Max: math.MinInt}, [3]int{api.MaxLen, api.MaxLen, -4 * api.MaxLen}},
	})
	wantFixed(t, []fixedCase{
		{Fixed{Room: math.MinInt, To: math.MaxInt, Left: math.MaxInt, Inner: math.MaxInt, Right: math.MaxInt, Around: math.MaxInt, Max: -1, AutoFrom: true}, [4]int{-6 * api.MaxLen, api.MaxLen, api.MaxLen, api.MaxLen}},
	})
}

// P4: what is solved stays as it is.
func TestSolveOnlyReads(t *testing.T) {
	w := Width{Room: math.MaxInt, Left: 9, Max: math.MinInt, AutoLeft: true, AutoInner: true}
	f := Fixed{Room: math.MaxInt, Left: 9, Max: math.MinInt, AutoLeft: true, AutoInner: true}
	w.Solve()
	f.Solve()
	if w != (Width{Room: math.MaxInt, Left: 9, Max: math.MinInt, AutoLeft: true, AutoInner: true}) || f != (Fixed{Room: math.MaxInt, Left: 9, Max: math.MinInt, AutoLeft: true, AutoInner: true}) {
		t.Error(w, f)
	}
}
