package paint

import (
	"casement/api"
)

// sideOf a picture, as it counts.
func sideOf(n int) int {
	return min(max(n, 0), api.MaxSide)
}

// blank rows of pixels on which nothing is painted.
func blank(width, height int) [][]int {
	rows := make([][]int, height)
	for y := range rows {
		rows[y] = make([]int, width)
		for x := range rows[y] {
			rows[y][x] = nothing
		}
	}
	return rows
}

// paint a mark on rows of pixels. Letters are bars: their upper half is left out.
func (m Mark) paint(rows [][]int) {
	r, top := m.Rect, 0
	if m.Text != "" {
		top = r.H / 2
	}
	for y, row := range rows {
		if !reaches(y, r.Y, top, r.H) {
			continue
		}
		for x := range row {
			if reaches(x, r.X, 0, r.W) {
				row[x] = m.Color
			}
		}
	}
}

// reaches: whether the middle of the pixel with that number lies where something is that begins at a place: at least first behind that, and less than size. The place may be so far out that only numbers without a sign hold the way from there.
func reaches(pixel, place, first, size int) bool {
	middle := pixel*api.Unit + api.Unit/2
	if middle < place || size <= 0 {
		return false
	}
	way := uint64(middle) - uint64(place)
	return way >= uint64(first) && way < uint64(size)
}
