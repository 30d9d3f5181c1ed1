package frame

import (
	"cmp"
	"slices"

	"casement/api"
	"casement/lengths"
)

// items of a part whose kids share it, in the order in which they stand.
func (p *part) items() []*part {
	var list []*part
	for _, q := range p.within {
		if !q.waits() {
			list = append(list, q)
		}
	}
	slices.SortStableFunc(list, func(a, b *part) int {
		return cmp.Compare(a.Style.V[api.POrder].N, b.Style.V[api.POrder].N)
	})
	return lengths.Firsts(list, api.MaxItems)
}

// inOrder: the pieces of a part whose kids share it: of its items these, and places for those that wait.
func (p *part) inOrder(items []*piece) []*piece {
	var list []*piece
	for _, q := range p.within {
		at := slices.IndexFunc(items, func(c *piece) bool { return c.part == q })
		switch {
		case q.waits():
			list = append(list, q.place(0, 0))
		case at >= 0:
			list = append(list, items[at])
		}
	}
	return list
}

// gaps between items.
type gaps struct{ across, down int }

func (p *part) gaps(in room) gaps {
	return gaps{lengthOf(p.Style.V[api.PGapCol], in.wide).n, lengthOf(p.Style.V[api.PGapRow], in.high).n}
}

// how an item stands, by its own word or by that of what it lies in.
func (p *part) how() int {
	at := api.PSelf
	if p.auto(at) {
		p, at = p.around, api.PItems
	}
	return p.pick(at, "start", "end", "center", "stretch")
}

// stretch, of how items stand.
const stretch = 3

// stretches: whether an item is as high as what it stands in.
func (c *piece) stretches() bool { return c.how() == stretch && !c.down.want.told }

// stretchTo a height, with all about.
func (c *piece) stretchTo(wide, high int) {
	c.fill(wide, told(c.down.bounded(high-c.about().down())))
}

// justify: how items are spread.
func (p *part) justify() int {
	return p.pick(api.PJustify, "start", "end", "center", "between", "around", "evenly")
}
