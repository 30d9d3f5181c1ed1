package grid

import (
	"casement/api"
	"casement/lengths"
)

// Place all items; how many columns and rows there are.
func Place(l []Item, cols int) ([]Item, int, int) {
	t := tableOf(l, cols)
	t.standTold()
	t.standInRows()
	t.standFromCursor()
	return t.items, t.cols, t.rows()
}

// table in whose cells items stand.
type table struct {
	items []Item
	taken cells
	cols  int
}

// tableOf items, of which none stands yet.
func tableOf(l []Item, cols int) *table {
	t := &table{taken: cells{}, cols: min(max(cols, 1), api.MaxSpan)}
	for _, i := range lengths.Firsts(l, api.MaxItems) {
		i = i.counted()
		t.cols = max(t.cols, i.ColSpan)
		if i.Col > 0 {
			t.cols = max(t.cols, i.lastCol())
		}
		t.items = append(t.items, i)
	}
	return t
}

// standTold: the items stand whose row and column are told.
func (t *table) standTold() {
	for _, i := range t.items {
		if i.Row > 0 && i.Col > 0 {
			t.taken.take(i)
		}
	}
}

// standInRows: the items stand whose row alone is told; they make the table wider, if they must.
func (t *table) standInRows() {
	for at := range t.items {
		i := &t.items[at]
		if i.Row == 0 || i.Col > 0 {
			continue
		}
		i.Col = 1
		i.Col = t.taken.clearCol(*i)
		t.cols = max(t.cols, i.lastCol())
		t.taken.take(*i)
	}
}

// standFromCursor: the items stand whose row is not told, none of them ahead of the one ahead of it.
func (t *table) standFromCursor() {
	cursor := cell{1, 1}
	for at := range t.items {
		i := &t.items[at]
		if i.Row > 0 {
			continue
		}
		if i.Col > 0 {
			*i = t.inCol(*i, cursor)
		} else {
			*i = t.inOrder(*i, cursor)
		}
		cursor = cell{i.Col, i.Row}
		t.taken.take(*i)
	}
}

// inCol: where an item stands, from the cursor on, whose column is told.
func (t *table) inCol(i Item, cursor cell) Item {
	i.Row = cursor.row
	if i.Col < cursor.col {
		i.Row++
	}
	i.Row = t.taken.clearRow(i)
	return i
}

// inOrder: where an item stands, from the cursor on, of which nothing is told. No item is wider than the table, so there is a row that has room.
func (t *table) inOrder(i Item, cursor cell) Item {
	i.Col, i.Row = cursor.col, cursor.row
	i.Col = t.taken.clearCol(i)
	for i.lastCol() > t.cols {
		i.Col = 1
		i.Row++
		i.Col = t.taken.clearCol(i)
	}
	return i
}

// rows: as many as items reach to.
func (t *table) rows() int {
	rows := 0
	for _, i := range t.items {
		rows = max(rows, i.lastRow())
	}
	return rows
}
