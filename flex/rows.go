package flex

import (
	"casement/lengths"
)

// Rows: how many items each has.
func Rows(l []Item, room, gap int, wrap bool) []int {
	lengths.Hold(&room, &gap)
	var rows []int
	wide := 0
	for _, i := range itemsOf(l) {
		want := i.want()
		if last := len(rows) - 1; last >= 0 && (!wrap || wide+gap+want <= room) {
			rows[last]++
			wide += gap + want
			continue
		}
		rows = append(rows, 1)
		wide = want
	}
	return rows
}
