package grid

// cell of a table.
type cell struct{ col, row int }

// cells that are taken. Each is worth the last column of an item that has it, so that who looks for room passes the whole item at once.
type cells map[cell]int

// take the cells of an item that stands.
func (c cells) take(i Item) {
	for row := i.Row; row <= i.lastRow(); row++ {
		for col := i.Col; col <= i.lastCol(); col++ {
			c[cell{col, row}] = i.lastCol()
		}
	}
}

// inWay: the last column of something that has a cell of an item's, where it would stand; 0: none of its cells is taken.
func (c cells) inWay(i Item) int {
	for row := i.Row; row <= i.lastRow(); row++ {
		for col := i.Col; col <= i.lastCol(); col++ {
			if last, taken := c[cell{col, row}]; taken {
				return last
			}
		}
	}
	return 0
}

// clearCol: the least column, from the item's own on, at which none of its cells is taken.
func (c cells) clearCol(i Item) int {
	for last := c.inWay(i); last > 0; last = c.inWay(i) {
		i.Col = last + 1
	}
	return i.Col
}

// clearRow: the least row, from the item's own on, at which none of its cells is taken.
func (c cells) clearRow(i Item) int {
	for c.inWay(i) > 0 {
		i.Row++
	}
	return i.Row
}
