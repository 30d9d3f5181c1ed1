package flex

import (
	"cmp"

	"casement/lengths"
)

// Share a row: how wide each is within.
func Share(l []Item, room, gap int) []int {
	lengths.Hold(&room, &gap)
	r := rowOf(itemsOf(l), room, gap)
	for open := r.open(); len(open) > 0; open = r.open() {
		r.deal(open)
	}
	var sizes []int
	for _, p := range r.parts {
		sizes = append(sizes, p.size)
	}
	return sizes
}

// row that is shared.
type row struct {
	parts []part
	grow  bool
	room  int // less gaps and what stands around
	start int // what was free when sharing began
}

// part of a row: an item, how wide it is, and by how much its bounds changed that.
type part struct {
	Item
	size, moved int
	settled     bool
}

// rowOf items: those are settled that take no part in sharing.
func rowOf(items []Item, room, gap int) *row {
	wants := lengths.Gaps(len(items), gap)
	r := &row{room: room - wants}
	for _, i := range items {
		wants += i.want()
		r.room -= i.Around
	}
	r.grow = wants < room
	for _, i := range items {
		size := i.within(i.Base)
		away := r.grow && i.Base > size || !r.grow && i.Base < size
		r.parts = append(r.parts, part{Item: i, size: size, settled: away || r.factor(i) == 0})
	}
	r.start = r.free()
	return r
}

// factor by which an item takes part.
func (r *row) factor(i Item) int {
	if r.grow {
		return i.Grow
	}
	return i.Shrink
}

// weight of an item among others: what is wide gives more than what is narrow.
func (r *row) weight(i Item) int {
	if r.grow {
		return i.Grow
	}
	return i.Shrink * i.Base
}

// open: the parts that are not settled.
func (r *row) open() []*part {
	var open []*part
	for at := range r.parts {
		if p := &r.parts[at]; !p.settled {
			open = append(open, p)
		}
	}
	return open
}

// free: what the settled ones and the Bases of the others leave of the room.
func (r *row) free() int {
	free := r.room
	for _, p := range r.parts {
		if p.settled {
			free -= p.size
		} else {
			free -= p.Base
		}
	}
	return free
}

// deal out what is free among the parts that are open, and settle some of them.
func (r *row) deal(open []*part) {
	var weights []int
	for _, p := range open {
		weights = append(weights, r.weight(p.Item))
	}
	moved := 0
	for k, n := range lengths.Shares(r.amount(open), weights, 0) {
		p := open[k]
		p.size = p.within(p.Base + n)
		p.moved = p.size - p.Base - n
		moved += p.moved
	}
	for _, p := range open {
		p.settled = moved == 0 || cmp.Compare(p.moved, 0) == cmp.Compare(moved, 0)
	}
}

// amount that there is to share: factors of less than 1 together do not take all of it.
func (r *row) amount(open []*part) int {
	free, factors := r.free(), 0
	for _, p := range open {
		factors += r.factor(p.Item)
	}
	if factors >= 1000 {
		return free
	}
	if some := r.start * factors / 1000; magnitude(some) < magnitude(free) {
		return some
	}
	return free
}

// magnitude: how far a number is from 0.
func magnitude(n int) int {
	return max(n, -n)
}
