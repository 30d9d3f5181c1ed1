package paint

import (
	"fmt"
	"math"
	"strings"
	"testing"

	"casement/api"
)

// drawn: a picture as a text: a letter for each color, from a on, a point where nothing is painted, a stroke between rows.
func drawn(rows [][]int) string {
	var all []string
	for _, row := range rows {
		text := ""
		for _, color := range row {
			if color == -1 {
				text += "."
			} else {
				text += string(rune('a' + color))
			}
		}
		all = append(all, text)
	}
	return strings.Join(all, "/")
}

// P132: a picture is so many pixels wide and high; numbers beyond the bounds are the nearer one.
func TestPictureSize(t *testing.T) {
	for _, c := range [][4]int{
		{0, 0, 0, 0}, {3, 2, 3, 2}, {-1, 2, 0, 2}, {2, -1, 2, 0}, {64, 64, 64, 64}, {65, 63, 64, 63}, {63, 65, 63, 64},
		{math.MaxInt, 1, 64, 1}, {1, math.MaxInt, 1, 64}, {math.MinInt, math.MinInt, 0, 0},
	} {
		for _, l := range [][]Mark{nil, {}, {{Color: 0, Rect: api.Rect{X: -9999, Y: -9999, W: 1, H: 1}}}} {
			rows := Picture(l, c[0], c[1])
			if len(rows) != c[3] {
				t.Error(c, len(rows))
			}
			for _, row := range rows {
				if drawn([][]int{row}) != strings.Repeat(".", c[2]) {
					t.Error(c, row)
				}
			}
		}
	}
}

// P132: a pixel is painted if its middle lies in the rect: left and above count, right and below do not.
func TestPictureMiddle(t *testing.T) {
	for _, c := range []struct {
		rect api.Rect
		want string
	}{
		{api.Rect{X: 0, Y: 0, W: 192, H: 192}, "aaa/aaa/aaa"},
		{api.Rect{X: 32, Y: 32, W: 1, H: 1}, "a../.../..."},
		{api.Rect{X: 33, Y: 32, W: 63, H: 1}, ".../.../..."},
		{api.Rect{X: 33, Y: 32, W: 64, H: 1}, ".a./.../..."},
		{api.Rect{X: 32, Y: 33, W: 1, H: 63}, ".../.../..."},
		{api.Rect{X: 32, Y: 33, W: 1, H: 64}, ".../a../..."},
		{api.Rect{X: 32, Y: 0, W: 64, H: 33}, "a../.../..."},
		{api.Rect{X: 32, Y: 0, W: 65, H: 33}, "aa./.../..."},
		{api.Rect{X: 0, Y: 32, W: 33, H: 64}, "a../.../..."},
		{api.Rect{X: 0, Y: 32, W: 33, H: 65}, "a../a../..."},
		{api.Rect{X: 0, Y: 0, W: 32, H: 192}, ".../.../..."},
		{api.Rect{X: -500, Y: -500, W: 1000, H: 1000}, "aaa/aaa/aaa"},
		{api.Rect{X: -500, Y: -500, W: 500, H: 1000}, ".../.../..."},
		{api.Rect{X: 160, Y: 160, W: 9999, H: 9999}, ".../.../..a"},
		{api.Rect{X: 161, Y: 160, W: 9999, H: 9999}, ".../.../..."},
		{api.Rect{X: 0, Y: 0, W: 0, H: 192}, ".../.../..."},
		{api.Rect{X: 0, Y: 0, W: 192, H: 0}, ".../.../..."},
		{api.Rect{X: 192, Y: 0, W: -192, H: 192}, ".../.../..."},
		{api.Rect{X: 0, Y: 192, W: 192, H: -192}, ".../.../..."},
	} {
		if got := drawn(Picture([]Mark{{Rect: c.rect}}, 3, 3)); got != c.want {
			t.Errorf("%v: %s, want %s", c.rect, got, c.want)
		}
	}
}

// P132: of a mark with a text, what lies from half of its height on, rounded down.
func TestPictureText(t *testing.T) {
	for _, c := range []struct {
		y, h int
		want string
	}{
		{0, 256, "../../aa/aa"}, {0, 192, "../aa/aa/.."}, {0, 193, "../aa/aa/.."}, {0, 194, "../../aa/.."},
		{0, 64, "aa/../../.."}, {0, 65, "aa/../../.."}, {0, 66, "../../../.."}, {32, 1, "aa/../../.."}, {31, 2, "aa/../../.."}, {31, 3, "aa/../../.."}, {30, 3, "aa/../../.."}, {33, 1, "../../../.."},
		{-64, 128, "aa/../../.."}, {-64, 96, "../../../.."}, {-64, 97, "aa/../../.."}, {-64, 192, "aa/aa/../.."}, {-1000, 2000, "aa/aa/aa/aa"}, {0, 0, "../../../.."}, {64, -64, "../../../.."}, {0, -9, "../../../.."},
	} {
		m := Mark{Rect: api.Rect{Y: c.y, W: 128, H: c.h}, Text: " "}
		if got := drawn(Picture([]Mark{m}, 2, 4)); got != c.want {
			t.Errorf("%v: %s, want %s", c, got, c.want)
		}
	}
}

// P132: mark by mark: later ones lie on those ahead, whatever their color is.
func TestPictureOrder(t *testing.T) {
	all := api.Rect{W: 192, H: 64}
	l := []Mark{{Color: 1, Rect: all}, {Color: 2, Rect: api.Rect{X: 64, W: 128, H: 64}}, {Color: 3, Rect: api.Rect{X: 128, W: 64, H: 64}, Text: "x"}}
	if got := drawn(Picture(l, 3, 1)); got != "bcd" {
		t.Error(got)
	}
	if got := drawn(Picture(append(l, Mark{Node: 5, Color: 4, Rect: all}), 3, 1)); got != "eee" {
		t.Error(got)
	}
	if got := drawn(Picture(append(l, Mark{Color: -1, Rect: api.Rect{W: 64, H: 64}}), 3, 1)); got != ".cd" {
		t.Error(got)
	}
	if got := fmt.Sprint(Picture([]Mark{{Color: math.MaxInt, Rect: all}, {Color: math.MinInt, Rect: api.Rect{W: 64, H: 64}}}, 2, 1)); got != fmt.Sprint([][]int{{math.MinInt, math.MaxInt}}) {
		t.Error(got)
	}
}

// P1, P5 and P132: rects that reach as far as numbers do.
func TestPictureFar(t *testing.T) {
	const most, least = math.MaxInt, math.MinInt
	for _, c := range []struct {
		rect api.Rect
		text string
		want string
	}{
		{api.Rect{X: 0, Y: 0, W: most, H: most}, "", "aa/aa"},
		{api.Rect{X: 96, Y: 96, W: most, H: most}, "", "../.a"},
		{api.Rect{X: most, Y: most, W: most, H: most}, "", "../.."},
		{api.Rect{X: least, Y: 0, W: most, H: most}, "", "../.."},
		{api.Rect{X: least, Y: least, W: most, H: most}, "", "../.."},
		{api.Rect{X: 33 - most, Y: 97 - most, W: most, H: most}, "", "a./a."},
		{api.Rect{X: 32 - most, Y: 97 - most, W: most, H: most}, "", "../.."},
		{api.Rect{X: 0, Y: 0, W: least, H: least}, "", "../.."},
		{api.Rect{X: most, Y: 0, W: least, H: most}, "", "../.."},
		{api.Rect{X: 0, Y: 0, W: most, H: most}, "x", "../.."},
		{api.Rect{X: 0, Y: -most / 2, W: most, H: most}, "x", "aa/aa"},
		{api.Rect{X: 0, Y: 33 - most/2, W: most, H: most}, "x", "../aa"},
		{api.Rect{X: 0, Y: least, W: most, H: most}, "x", "../.."},
		{api.Rect{X: 0, Y: 97 - most, W: most, H: most}, "x", "aa/aa"},
		{api.Rect{X: 0, Y: 0, W: most, H: least}, "x", "../.."},
	} {
		if got := drawn(Picture([]Mark{{Rect: c.rect, Text: c.text}}, 2, 2)); got != c.want {
			t.Errorf("%v: %s, want %s", c, got, c.want)
		}
	}
}

// P4: rows share no memory, and pictures do not either.
func TestPictureNew(t *testing.T) {
	l := []Mark{{Color: 1, Rect: api.Rect{W: 128, H: 64}}}
	rows := Picture(l, 2, 2)
	_ = append(rows[0], 7, 7)
	rows[0][0] = 5
	if got := drawn(rows); got != "fb/.." {
		t.Error(got)
	}
	if got := drawn(Picture(l, 2, 2)); got != "bb/.." || l[0].Color != 1 {
		t.Error(got, l)
	}
}

// P130 to P132 together: a page as it is seen.
func TestPicturePage(t *testing.T) {
	f := page(t, `<div>mm<p></p><i></i></div>`, `div{width:10px;height:6px;background:#000001;color:#000002;font-size:4px;line-height:4px}*{font-size:4px}p{position:absolute;left:5px;top:1px;width:3px;height:3px;background:#000003;z-index:-1}i{position:absolute;left:0;top:4px;width:20px;height:1px;background:#000004}`)
	// The text is 6.4 pixels wide, and its lower half is painted.
	want := "bbbbbbbbbb../bbbbbdddbb../ccccccddbb../ccccccddbb../eeeeeeeeeeee"
	if got := drawn(Picture(Marks(f), 12, 5)); got != want {
		t.Errorf("%s, want %s", got, want)
	}
}
